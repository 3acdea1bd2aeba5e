/-
  Chapter 7: loads by the model.
-/
import Derived.Test.YtfjncipekjnbjabLa
import Derived.Test.YtfjncipekjnbjabJd
import Derived.Test.YtfjncipekjnbjabWm
namespace Go.Proofs.Ytfjncipekjnbjab
open Go.RowKit

theorem pr7_step (p : List Int) {k : Nat} (hk : k < 3) : prTo p 7 (k + 1) = prTo p 7 k + T p k := by
  rcases nat3 hk with rfl | rfl | rfl <;> simp [prTo]
theorem pr7_bd {p : List Int} (hp : VP p) {k : Nat} (hk : k ≤ 3) : 0 ≤ prTo p 7 k ∧ prTo p 7 k ≤ 120 := by
  have := prTo_bd hp (s := 7) k hk
  omega

set_option maxRecDepth 100000 in
set_option maxHeartbeats 1000000 in
theorem Sload_any (A B : Option Addr) (c d n : Nat) (ts : List (List Int)) (p : List Int) (w : World) (hn : ts.length = n) (h : RdR w A c ts) (g : Rd w B d p) (hv : ∀ t ∈ ts, VT t) (h4 : n ≤ 4) (hp : VP p) :
    Calls Try.prog 108 #[.slice A n c, .slice B 3 d] w fun e w' => e = .returned (.int .i64 (lo ts p)) ∧ ∃ n, w' = w.drewN n := by
  have h3 := hp.1
  have HN := Lib.hid hn
  have HP7 := Lib.hid (fun k (hk : k ≤ 3) => pr7_bd hp hk)
  have HV3 := Lib.hid hp.2
  have HSB := Lib.hid (fun k => suS_take_bd hv hp k)
  have HVT := Lib.hid hv
  have HVP := Lib.hid hp
  have H3 := Lib.hid h3
  clear hp hn hv h3
  go_enter Try.func108, Try.ntmps108
  go_wp2
  go_loopw [5, 6] (fun o i wr => ∃ k m : Nat, k ≤ 3 ∧ o = .int .i64 (prTo p 7 k) ∧ i = .int .i64 (k : Int) ∧ wr = w.drewN m) (fun _ i _ => 3 - (intOf i).toNat)
  case atStart => exact ⟨0, 0, by omega, rfl, rfl, rfl⟩
  case round =>
    obtain ⟨k, m, hk, rfl, rfl, rfl⟩ := hrel
    by_cases hlt : k < 3
    · obtain ⟨b, off, x, rfl, _, hx, hc⟩ := g.at_ (k := k) (by rw [H3.out]; exact hlt)
      have hT := T_of hx.out
      have HPS : Hid (prTo p 7 (k + 1) = prTo p 7 k + x) := Lib.hid (by rw [pr7_step p hlt, hT])
      have hb := HP7.out k (by omega)
      have hxb := HV3.out k hlt
      rw [hT] at hxb
      obtain ⟨V, hV⟩ : ∃ V, V = prTo p 7 k := ⟨_, rfl⟩
      rw [← hV] at hb HPS ⊢
      have e1 : IntKind.i64.wrap (V + x) = V + x := IntWalk.i64_in _ (by omega)
      have hk3 : (k : Int) < 3 := by omega
      have hk1 : k + 1 ≤ 3 := hlt
      clear hV hx hT hb hxb hlt
      go_wp2
      go_roundw
      case rel => exact ⟨k + 1, _, hk1, by rw [HPS.out], by go_num, rfl⟩
      case measure => simp [intOf]; omega
    · obtain rfl : k = 3 := by omega
      have hpb := HP7.out 3 (by omega)
      have HLO : Hid (∀ k, prTo p 7 3 + suS (ts.take k) p = pr p 7 + suS (ts.take k) p) := Lib.hid (fun _ => rfl)
      obtain ⟨P, hP⟩ : ∃ P, P = prTo p 7 3 := ⟨_, rfl⟩
      rw [← hP] at hpb HLO ⊢
      rw [show ((3 : Nat) : Int) = 3 from rfl]
      have HS0 : Hid (P = P + suS (ts.take 0) p) := Lib.hid (by simp [suS])
      clear hP hlt HP7 HV3
      go_wp2
      go_loopw [5, 7] (fun o i wr => ∃ k m : Nat, k ≤ n ∧ o = .int .i64 (P + suS (ts.take k) p) ∧ i = .int .i64 (k : Int) ∧ wr = w.drewN m) (fun _ i _ => n - (intOf i).toNat)
      case atStart => exact ⟨0, m, by omega, by rw [← HS0.out], rfl, rfl⟩
      case round =>
        obtain ⟨k, m, hk, rfl, rfl, rfl⟩ := hrel
        by_cases hlt : k < n
        · obtain ⟨b, off, r, A', c', rfl, hr, hc, hcap, hrd⟩ := h.at_ (k := k) (by rw [HN.out]; exact hlt)
          have hvr := HVT.out r (List.mem_of_getElem? hr.out)
          have HSU := Lib.hid (Ssurplus_any A' B c' d r p (w.drewN m) (hrd.out.drewN _) (g.drewN _) hvr HVP.out)
          have HST := Lib.hid (suS_step p hr.out)
          have hsb := HSB.out k
          rw [HN.out] at hsb
          have hub := suTo_bd hvr HVP.out (k := 8) (Nat.le_refl _)
          have hue : su r p = suTo r p 8 := rfl
          rw [← hue] at hub
          rw [hvr.1] at hc HSU
          rw [H3.out] at HSU
          obtain ⟨u, hu⟩ : ∃ u, u = su r p := ⟨_, rfl⟩
          rw [← hu] at hub HST HSU
          obtain ⟨V, hV⟩ : ∃ V, V = suS (ts.take k) p := ⟨_, rfl⟩
          rw [← hV] at hsb HST ⊢
          have e1 : IntKind.i64.wrap (P + V + u) = P + (V + u) := by rw [IntWalk.i64_in _ (by omega)]; omega
          have hk1 : k + 1 ≤ n := hlt
          have hkn : (k : Int) < (n : Int) := by omega
          clear hV hu hue hub hsb hr hvr hrd hcap hlt
          go_wp2_with fail
          refine HSU.out.mono ?_
          rintro e w5 ⟨rfl, q, rfl⟩
          go_wp2
          go_roundw
          case rel => exact ⟨k + 1, _, hk1, by rw [HST.out], by go_num, rfl⟩
          case measure => simp [intOf]; omega
        · obtain rfl : k = n := by omega
          have HE : Hid (P + suS (ts.take k) p = lo ts p) := Lib.hid (by rw [HLO.out, List.take_of_length_le (by rw [HN.out]; omega)]; rfl)
          go_wp2
          go_ret
          exact ⟨by rw [HE.out]; rfl, _, rfl⟩

/-- What LoadAt tells. -/
noncomputable def loB (ts : List (List Int)) (p : List Int) : Int := if vtsB ts && vp p then lo ts p else -1
theorem loB_no {ts : List (List Int)} {p : List Int} (h : (vtsB ts && vp p) = false) : loB ts p = -1 := by unfold loB; rw [h]; rfl
theorem loB_yes {ts : List (List Int)} {p : List Int} (h1 : vtsB ts = true) (h2 : vp p = true) : loB ts p = lo ts p := by unfold loB; rw [h1, h2]; rfl

set_option maxHeartbeats 800000 in
theorem SLoadAt_any (A B : Option Addr) (c d : Nat) (ts : List (List Int)) (p : List Int) (w : World) (h : RdR w A c ts) (g : Rd w B d p) (hl : ts.length ≤ 1099511627776) (hl2 : ∀ r ∈ ts, r.length ≤ 1099511627776) (gl : p.length ≤ 1099511627776) :
    Calls Try.prog 44 #[.slice A ts.length c, .slice B p.length d] w fun e w' => e = .returned (.int .i64 (loB ts p)) ∧ ∃ n, w' = w.drewN n := by
  have HV := Lib.hid (SvalidTables_any A c ts w h hl hl2)
  have HQ := Lib.hid (fun w1 (g : Rd w1 B d p) => SvalidPrices_any B d p w1 g gl)
  rcases hv : vtsB ts with _ | _
  · have HE := Lib.hid (loB_no (ts := ts) (p := p) (by rw [hv]; rfl))
    rw [hv] at HV
    clear hv
    go_enter Try.func44, Try.ntmps44
    go_wp2_with fail
    refine HV.out.mono ?_
    rintro e w1 ⟨rfl, n, rfl⟩
    go_wp2
    go_ret
    exact ⟨by rw [HE.out]; rfl, _, rfl⟩
  rcases hp : vp p with _ | _
  · have HE := Lib.hid (loB_no (ts := ts) (p := p) (by rw [hp]; simp))
    rw [hv] at HV
    rw [hp] at HQ
    clear hv hp
    go_enter Try.func44, Try.ntmps44
    go_wp2_with fail
    refine HV.out.mono ?_
    rintro e w1 ⟨rfl, n, rfl⟩
    go_wp2_with fail
    refine (HQ.out _ (g.drewN _)).mono ?_
    rintro e w1 ⟨rfl, m, rfl⟩
    go_wp2
    go_ret
    exact ⟨by rw [HE.out]; rfl, _, rfl⟩
  · have HE := Lib.hid (loB_yes hv hp)
    have hvt := vtsB_iff.1 hv
    have hvp := vp_iff.1 hp
    have HL := Lib.hid (fun w1 (h : RdR w1 A c ts) (g : Rd w1 B d p) => Sload_any A B c d ts.length ts p w1 rfl h g hvt.2 hvt.1.2 hvp)
    have h3 := hvp.1
    rw [hv] at HV
    rw [hp] at HQ
    rw [h3] at HQ ⊢
    clear hv hp hvt hvp h3
    go_enter Try.func44, Try.ntmps44
    go_wp2_with fail
    refine HV.out.mono ?_
    rintro e w1 ⟨rfl, n, rfl⟩
    go_wp2_with fail
    refine (HQ.out _ (g.drewN _)).mono ?_
    rintro e w1 ⟨rfl, m, rfl⟩
    go_wp2_with fail
    refine (HL.out _ (h.drewN _) (g.drewN _)).mono ?_
    rintro e w1 ⟨rfl, k, rfl⟩
    go_wp2
    go_ret
    exact ⟨by rw [HE.out]; rfl, _, rfl⟩

end Go.Proofs.Ytfjncipekjnbjab
