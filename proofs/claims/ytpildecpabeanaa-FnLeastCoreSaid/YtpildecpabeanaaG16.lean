/-
  Chapter 9: the model's IsNested; both sides of WorthWith and of IsNested.
-/
import Derived.Test.YtpildecpabeanaaG13
import Derived.Test.YtpildecpabeanaaG15
namespace Go.Proofs.Ytpildecpabeanaa
open Go.RowKit

end Go.Proofs.Ytpildecpabeanaa

/-
  Chapter 9, the model: InCore.
-/
namespace Go.Proofs.Ytpildecpabeanaa
open Go.RowKit

theorem all30_bad {xs : List Int} {k : Nat} {x : Int} (hx : xs[k]? = some x) (hb : inR x 0 30 = false) : ¬ ∀ x ∈ xs, 0 ≤ x ∧ x ≤ 30 := fun h => by
  have := h x (List.mem_of_getElem? hx)
  rw [inR_true.2 this] at hb; cases hb

/-- What validPays tells. -/
def VpP (ts : List (List Int)) (pays : List Int) : Prop := VTs ts ∧ pays.length = ts.length ∧ ∀ x ∈ pays, 0 ≤ x ∧ x ≤ 30
noncomputable def vpB (ts : List (List Int)) (pays : List Int) : Bool := @decide (VpP ts pays) (Classical.propDecidable _)
theorem vpB_true {ts : List (List Int)} {pays : List Int} (h : VpP ts pays) : vpB ts pays = true := by unfold vpB; simp [h]
theorem vpB_false {ts : List (List Int)} {pays : List Int} (h : ¬ VpP ts pays) : vpB ts pays = false := by unfold vpB; simp [h]
theorem all30_step {xs : List Int} {k : Nat} {x : Int} (hx : xs[k]? = some x) (hb : inR x 0 30 = true) (h : ∀ y ∈ xs.take k, 0 ≤ y ∧ y ≤ 30) : ∀ y ∈ xs.take (k + 1), 0 ≤ y ∧ y ≤ 30 := fun y hy => by
  rw [List.take_add_one, hx] at hy
  rcases List.mem_append.1 hy with h1 | h1
  · exact h y h1
  · simp at h1; rw [h1]; exact inR_true.1 hb

set_option maxHeartbeats 1000000 in
theorem SvalidPays_any (A B : Option Addr) (c d : Nat) (ts : List (List Int)) (pays : List Int) (w : World) (h : RdR w A c ts) (g : Rd w B d pays) (hl : ts.length ≤ 1099511627776) (hl2 : ∀ r ∈ ts, r.length ≤ 1099511627776) (hpl : pays.length ≤ 1099511627776) :
    Calls Try.prog 82 #[.slice A ts.length c, .slice B pays.length d] w fun e w' => e = .returned (.bool (vpB ts pays)) ∧ ∃ q, w' = w.drewN q := by
  have HC := Lib.hid (SvalidTables_any A c ts w h hl hl2)
  have HVB := Lib.hid (@vtsB_iff ts)
  clear h
  go_enter Try.func82, Try.ntmps82
  go_wp2
  go_loop [5] (fun i => ∃ k : Nat, k ≤ pays.length ∧ i = .int .i64 (k : Int) ∧ Hid (∀ y ∈ pays.take k, 0 ≤ y ∧ y ≤ 30)) (fun i => pays.length - (intOf i).toNat)
  case atStart => exact ⟨0, Nat.zero_le _, rfl, Lib.hid (fun y hy => by simp at hy)⟩
  case round =>
    obtain ⟨k, hk, rfl, HT⟩ := hrel
    by_cases hlt : k < pays.length
    · obtain ⟨b, off, x, rfl, _, hx, hc⟩ := g.at_ hlt
      have HR := Lib.hid (fun w1 => inRange_any x 0 30 w1)
      rcases hb : inR x 0 30 with _ | _
      · have HE : Hid (vpB ts pays = false) := Lib.hid (vpB_false (fun hv => all30_bad hx.out hb hv.2.2))
        rw [hb] at HR
        clear hb hx
        go_wp2_with (go_at_call 69; refine (HR.out _).mono ?_; rintro e w' ⟨rfl, rfl⟩)
        go_ret
        exact ⟨by rw [HE.out]; rfl, 0, rfl⟩
      · have HT' := Lib.hid (all30_step hx.out hb HT.out)
        rw [hb] at HR
        clear hb hx
        go_wp2_with (go_at_call 69; refine (HR.out _).mono ?_; rintro e w' ⟨rfl, rfl⟩)
        go_round
        case rel => exact ⟨k + 1, by omega, by go_num, HT'⟩
        case measure => simp [intOf]; omega
    · obtain rfl : k = pays.length := by omega
      have ht := HT.out
      rw [List.take_length] at ht
      have HT2 := Lib.hid ht
      clear ht HT
      rcases hb : vtsB ts with _ | _
      · have HE : Hid (vpB ts pays = false) := Lib.hid (vpB_false (fun hv => by rw [HVB.out.2 hv.1] at hb; cases hb))
        rw [hb] at HC
        clear hb HVB
        go_wp2_with (go_at_call 74; refine HC.out.mono ?_; rintro e w' ⟨rfl, q, rfl⟩)
        go_ret
        exact ⟨by rw [HE.out]; rfl, _, rfl⟩
      · have hv := HVB.out.1 hb
        rw [hb] at HC
        by_cases hl : pays.length = ts.length
        · have HE : Hid (vpB ts pays = true) := Lib.hid (vpB_true ⟨hv, hl, HT2.out⟩)
          have he : ((pays.length : Int) == (ts.length : Int)) = true := by simp; omega
          clear hb HVB hl hv
          go_wp2_with (go_at_call 74; refine HC.out.mono ?_; rintro e w' ⟨rfl, q, rfl⟩)
          go_ret
          exact ⟨by rw [HE.out]; rfl, _, rfl⟩
        · have HE : Hid (vpB ts pays = false) := Lib.hid (vpB_false (fun h => hl h.2.1))
          have he : ((pays.length : Int) == (ts.length : Int)) = false := by simp; omega
          clear hb HVB hl hv
          go_wp2_with (go_at_call 74; refine HC.out.mono ?_; rintro e w' ⟨rfl, q, rfl⟩)
          go_ret
          exact ⟨by rw [HE.out]; rfl, _, rfl⟩

/-- What bidder k has, as it stands in memory. -/
theorem own_at {ts : List (List Int)} {w : World} {A : Option Addr} {c n k : Nat} (h : RdR w A c ts) (hn : ts.length = n) (hv : ∀ t ∈ ts, VT t) (hk : k < n) :
    ∃ b off br ofr c' s, A = some ⟨b, off, none⟩ ∧ s < 8 ∧ (setsF (wayF ts) n)[k]? = some ((s : Nat) : Int) ∧ w.cell? ⟨b, off + k, none⟩ = some (.slice (some ⟨br, ofr, none⟩) 8 c') ∧ w.cell? ⟨br, ofr + s, none⟩ = some (.int .i64 (ow ts k)) := by
  obtain ⟨b, off, r, A', c', rfl, hr, hc, hcap, hrd⟩ := h.at_ (k := k) (by rw [hn]; exact hk)
  have hvt := hv r (List.mem_of_getElem? hr.out)
  obtain ⟨br, ofr, rfl⟩ := hrd.out.some_ hvt.1
  rw [hvt.1] at hc
  have hs8 : setOf (wayF ts) k < 8 := setOf_lt _ k
  obtain ⟨b3, o3, x, hA, _, hx, hcx⟩ := hrd.out.at_ (k := setOf (wayF ts) k) (by rw [hvt.1]; exact hs8)
  cases hA
  refine ⟨b, off, br, ofr, c', setOf (wayF ts) k, rfl, hs8, setsF_at _ hk, hc, ?_⟩
  rw [hcx]
  unfold ow
  rw [getD_row hr.out, T_of hx.out]

def FairP (ts : List (List Int)) (pays : List Int) : Prop := ∀ i, i < ts.length → at0 pays i ≤ ow ts i
noncomputable def fairB (ts : List (List Int)) (pays : List Int) : Bool := @decide (FairP ts pays) (Classical.propDecidable _)
theorem fairB_true {ts : List (List Int)} {pays : List Int} (h : FairP ts pays) : fairB ts pays = true := by unfold fairB; simp [h]
theorem fairB_false {ts : List (List Int)} {pays : List Int} (h : ¬ FairP ts pays) : fairB ts pays = false := by unfold fairB; simp [h]
theorem at0_of {xs : List Int} {k : Nat} {x : Int} (h : xs[k]? = some x) : at0 xs k = x := by unfold at0; rw [List.getD_eq_getElem?_getD, h]; rfl

set_option maxHeartbeats 1000000 in
theorem Sfair_any (A B C : Option Addr) (c d e n : Nat) (ts : List (List Int)) (pays : List Int) (w : World) (hn : ts.length = n) (hp : pays.length = n) (h : RdR w A c ts) (hv : ∀ t ∈ ts, VT t) (hS : Rd w B d (setsF (wayF ts) n)) (g : Rd w C e pays) (hl : n ≤ 1000) :
    Calls Try.prog 84 #[.slice A n c, .slice B n d, .slice C n e] w fun e w' => e = .returned (.bool (fairB ts pays)) ∧ ∃ q, w' = w.drewN q := by
  have HT := Lib.hid (@fairB_true ts pays)
  have HF := Lib.hid (@fairB_false ts pays)
  have HN := Lib.hid hn
  have HV := Lib.hid hv
  have hsl : (setsF (wayF ts) n).length = n := setsF_len' _ _
  have HSL := Lib.hid hsl
  clear hn hv hsl
  go_enter Try.func84, Try.ntmps84
  go_wp2
  go_loopw [7] (fun i wr => ∃ k q : Nat, k ≤ n ∧ i = .int .i64 (k : Int) ∧ wr = w.drewN q ∧ Hid (∀ j, j < k → at0 pays j ≤ ow ts j)) (fun i _ => n - (intOf i).toNat)
  case atStart => exact ⟨0, 0, Nat.zero_le _, rfl, rfl, Lib.hid (fun j hj => absurd hj (by omega))⟩
  case round =>
    obtain ⟨k, q, hk, rfl, rfl, HK⟩ := hrel
    by_cases hlt : k < n
    · obtain ⟨b1, off1, br, ofr, c', s, rfl, hs8, hsx, hc1, hc2⟩ := own_at h HN.out HV.out hlt
      obtain ⟨b2, off2, s', rfl, _, hs', hc3⟩ := hS.at_ (k := k) (by rw [HSL.out]; exact hlt)
      obtain rfl : s' = (s : Int) := by have := hs'.out; rw [hsx] at this; injection this with this; exact this.symm
      obtain ⟨b3, off3, x, rfl, _, hx, hc4⟩ := g.at_ (k := k) (by rw [hp]; exact hlt)
      have hax := at0_of hx.out
      obtain ⟨y, hy⟩ : ∃ y, y = ow ts k := ⟨_, rfl⟩
      rw [← hy] at hc2
      have hs0 : (0 : Int) ≤ (s : Int) := by omega
      have hs7 : (s : Int) < 8 := by omega
      have hk0 : (0 : Int) ≤ (k : Int) := by omega
      have hkn : (k : Int) < (n : Int) := by omega
      by_cases hgt : y < x
      · have HE := Lib.hid (HF.out (fun hh => by have := hh k (by rw [HN.out]; exact hlt); rw [hax, ← hy] at this; omega))
        have hgt' : decide (y < x) = true := by simpa using hgt
        clear hgt hy hax hx hs' hsx
        go_wp2_with fail
        go_quiet (fail)
        go_wp2
        go_ret
        exact ⟨by rw [HE.out]; rfl, _, World.drewN_drewN _ _ _⟩
      · have HK1 : Hid (∀ j, j < k + 1 → at0 pays j ≤ ow ts j) := Lib.hid (fun j hj => by
          rcases Nat.lt_or_ge j k with h1 | h1
          · exact HK.out j h1
          · rw [show j = k by omega, hax, ← hy]; omega)
        have hgt' : decide (y < x) = false := by simpa using hgt
        clear hgt hy hax hx hs' hsx
        go_wp2_with fail
        go_quiet (fail)
        go_wp2
        go_roundw
        case rel => exact ⟨k + 1, _, hlt, by go_num, rfl, HK1⟩
        case measure => simp [intOf]; omega
    · obtain rfl : k = n := by omega
      have HE := Lib.hid (HT.out (fun i hi => HK.out i (by rw [HN.out] at hi; exact hi)))
      go_wp2
      go_ret
      exact ⟨by rw [HE.out]; rfl, _, rfl⟩

end Go.Proofs.Ytpildecpabeanaa

/-
  Chapter 9, the model: whether payments are blocked, and InCore.
-/
namespace Go.Proofs.Ytpildecpabeanaa
open Go.RowKit

/-- Some bidders would give more. -/
def BlP (ts : List (List Int)) (p : Nat → Int) : Prop := ∃ S, S < 2 ^ ts.length ∧ hv (ow ts) p S ts.length < ww ts S
noncomputable def blB (ts : List (List Int)) (p : Nat → Int) : Bool := @decide (BlP ts p) (Classical.propDecidable _)
theorem blB_true {ts : List (List Int)} {p : Nat → Int} (h : BlP ts p) : blB ts p = true := by unfold blB; simp [h]
theorem blB_false {ts : List (List Int)} {p : Nat → Int} (h : ∀ S, S < 2 ^ ts.length → ww ts S ≤ hv (ow ts) p S ts.length) : blB ts p = false := by
  unfold blB; simp only [decide_eq_false_iff_not]
  rintro ⟨S, h1, h2⟩
  have := h S h1; omega

set_option maxHeartbeats 2000000 in
theorem Sblocked_any (A B C D : Option Addr) (c d e f n : Nat) (ts : List (List Int)) (pays : List Int) (w : World) (hn : ts.length = n) (hp : pays.length = n) (h : RdR w A c ts) (hvt : ∀ t ∈ ts, VT t) (hS : Rd w B d (setsF (wayF ts) n)) (g : Rd w C e pays) (hW : Rd w D f (vls (fun S => ww ts S) (2 ^ n))) (h4 : n ≤ 4) (hpb : ∀ i, i < 4 → 0 ≤ at0 pays i ∧ at0 pays i ≤ 30) :
    Calls Try.prog 85 #[.slice A n c, .slice B n d, .slice C n e, .slice D (2 ^ n) f] w fun e w' => e = .returned (.bool (blB ts (at0 pays))) ∧ ∃ q, w' = w.drewN q := by
  have HT := Lib.hid (@blB_true ts (at0 pays))
  have HF := Lib.hid (@blB_false ts (at0 pays))
  have HN := Lib.hid hn
  have HV := Lib.hid hvt
  have hsl : (setsF (wayF ts) n).length = n := setsF_len' _ _
  have HSL := Lib.hid hsl
  have HP := Lib.hid (fun w1 => Spow4_any n (by omega) w1)
  have hp16 := pow_len (n := n) (by omega)
  have HBI : Hid (∀ (S k : Nat), S < 16 → k < 4 → ∀ w1, Calls Try.prog 139 #[.int .i64 (S : Int), .int .i64 (k : Int)] w1 fun e w' => e = .returned (.int .i64 ((S / 2 ^ k % 2 : Nat) : Int)) ∧ w1 = w') := Lib.hid (fun S k hS hk w1 => Sbit4_any S k hS hk w1)
  have HOB : Hid (∀ i, i < n → 0 ≤ ow ts i ∧ ow ts i ≤ 30) := Lib.hid (fun i hi => ow_bd hvt (by omega))
  have HPB := Lib.hid hpb
  have HHB := Lib.hid (fun (S k : Nat) (hk : k ≤ n) => hv_bd (o := ow ts) (p := at0 pays) (M := 30) S (k := k) (fun i hi => HOB.out i (by omega)) (fun i hi => hpb i (by omega)))
  rw [hn] at HF
  have HBL : Hid (∀ S, S < 2 ^ n → hv (ow ts) (at0 pays) S n < ww ts S → blB ts (at0 pays) = true) := Lib.hid (fun S hS hlt => HT.out ⟨S, by rw [hn]; exact hS, by rw [hn]; exact hlt⟩)
  generalize blB ts (at0 pays) = bl at *
  have HWL : Hid ((vls (fun S => ww ts S) (2 ^ n)).length = 2 ^ n) := Lib.hid (vls_len _ _)
  have HWA : Hid (∀ S, S < 2 ^ n → (vls (fun S => ww ts S) (2 ^ n))[S]? = some (ww ts S)) := Lib.hid (fun S hS => vls_at hS)
  generalize vls (fun S => ww ts S) (2 ^ n) = wl at *
  generalize 2 ^ n = P at *
  clear hn hvt hsl HT hpb
  go_enter Try.func85, Try.ntmps85
  go_wp2_with fail
  go_loopw [9] (fun i wr => ∃ S q : Nat, S ≤ P ∧ i = .int .i64 (S : Int) ∧ wr = w.drewN q ∧ Hid (∀ j, j < S → ww ts j ≤ hv (ow ts) (at0 pays) j n)) (fun i _ => P - (intOf i).toNat)
  case atStart => exact ⟨0, 0, Nat.zero_le _, rfl, rfl, Lib.hid (fun j hj => absurd hj (by omega))⟩
  case round =>
    obtain ⟨S, q, hSP, rfl, rfl, HK⟩ := hrel
    by_cases hlt : S < P
    · have hSP' : (S : Int) < (P : Int) := by omega
      go_wp2_with (go_at_call 113; refine (HP.out _).mono ?_; rintro e w1 ⟨rfl, rfl⟩)
      go_loopw [10, 11] (fun hvv i wr => ∃ k q' : Nat, k ≤ n ∧ i = .int .i64 (k : Int) ∧ wr = w.drewN q' ∧ hvv = .int .i64 (hv (ow ts) (at0 pays) S k)) (fun _ i _ => n - (intOf i).toNat)
      case atStart => exact ⟨0, q, Nat.zero_le _, rfl, rfl, rfl⟩
      case round =>
        obtain ⟨k, q', hk, rfl, rfl, rfl⟩ := hrel
        by_cases hlt2 : k < n
        · obtain ⟨b1, off1, br, ofr, c', s, rfl, hs8, hsx, hc1, hc2⟩ := own_at h HN.out HV.out hlt2
          obtain ⟨b2, off2, s', rfl, _, hs', hc3⟩ := hS.at_ (k := k) (by rw [HSL.out]; exact hlt2)
          obtain rfl : s' = (s : Int) := by have := hs'.out; rw [hsx] at this; injection this with this; exact this.symm
          obtain ⟨b3, off3, x, rfl, _, hx, hc4⟩ := g.at_ (k := k) (by rw [hp]; exact hlt2)
          have hax := at0_of hx.out
          have hxb := HPB.out k (by omega)
          have hyb := HOB.out k hlt2
          rw [hax] at hxb
          obtain ⟨y, hy⟩ : ∃ y, y = ow ts k := ⟨_, rfl⟩
          rw [← hy] at hc2 hyb
          have hvb := HHB.out S k (by omega)
          obtain ⟨z, hz⟩ : ∃ z, z = hv (ow ts) (at0 pays) S k := ⟨_, rfl⟩
          have hs0 : (0 : Int) ≤ (s : Int) := by omega
          have hs7 : (s : Int) < 8 := by omega
          have hk0 : (0 : Int) ≤ (k : Int) := by omega
          have hkn : (k : Int) < (n : Int) := by omega
          have HB1 := Lib.hid (HBI.out S k (by omega) (by omega))
          have hk4 : (30 : Int) * (k : Int) ≤ 120 := by omega
          by_cases hb : S / 2 ^ k % 2 = 1
          · have HE : Hid (hv (ow ts) (at0 pays) S (k + 1) = z + y) := Lib.hid (by simp only [hv]; rw [if_pos hb, hz, hy])
            rw [hb] at HB1
            rw [← hz] at hvb ⊢
            have e1 : IntKind.i64.wrap (z + x) = z + x := IntWalk.i64_in _ (by omega)
            have e2 : IntKind.i64.wrap (z + x + y) = z + x + y := IntWalk.i64_in _ (by omega)
            have e3 : IntKind.i64.wrap (z + x + y - x) = z + y := by rw [show z + x + y - x = z + y by omega]; exact IntWalk.i64_in _ (by omega)
            clear hy hax hx hs' hsx hz hb hvb hxb hyb
            go_wp2_with (go_at_call 139; refine (HB1.out _).mono ?_; rintro e w1 ⟨rfl, rfl⟩)
            go_quiet (fail)
            go_wp2
            go_roundw
            case rel => exact ⟨k + 1, _, hlt2, by go_num, rfl, by rw [HE.out]⟩
            case measure => simp [intOf]; omega
          · have HE : Hid (hv (ow ts) (at0 pays) S (k + 1) = z + x) := Lib.hid (by simp only [hv]; rw [if_neg hb, hz, hax])
            rw [show S / 2 ^ k % 2 = 0 by omega] at HB1
            rw [← hz] at hvb ⊢
            have e1 : IntKind.i64.wrap (z + x) = z + x := IntWalk.i64_in _ (by omega)
            clear hy hax hx hs' hsx hz hb hvb hxb hyb
            go_wp2_with (go_at_call 139; refine (HB1.out _).mono ?_; rintro e w1 ⟨rfl, rfl⟩)
            go_roundw
            case rel => exact ⟨k + 1, _, hlt2, by go_num, rfl, by rw [HE.out]⟩
            case measure => simp [intOf]; omega
        · obtain rfl : k = n := by omega
          obtain ⟨b4, off4, u, rfl, _, hu, hc5⟩ := hW.at_ (k := S) (by rw [HWL.out]; exact hlt)
          obtain rfl : u = ww ts S := by have := hu.out; rw [HWA.out S hlt] at this; injection this with this; exact this.symm
          obtain ⟨u, hu2⟩ : ∃ u, u = ww ts S := ⟨_, rfl⟩
          obtain ⟨z, hz⟩ : ∃ z, z = hv (ow ts) (at0 pays) S k := ⟨_, rfl⟩
          rw [← hu2] at hc5
          rw [← hz]
          have hS0 : (0 : Int) ≤ (S : Int) := by omega
          by_cases hgt : z < u
          · have HE := Lib.hid (HBL.out S hlt (by rw [← hz, ← hu2]; exact hgt))
            have hgt' : decide (z < u) = true := by simpa using hgt
            clear hgt hu2 hz hu
            go_wp2
            go_ret
            exact ⟨by rw [HE.out]; rfl, _, rfl⟩
          · have HK1 : Hid (∀ j, j < S + 1 → ww ts j ≤ hv (ow ts) (at0 pays) j k) := Lib.hid (fun j hj => by
              rcases Nat.lt_or_ge j S with h1 | h1
              · exact HK.out j h1
              · rw [show j = S by omega, ← hu2, ← hz]; omega)
            have hgt' : decide (z < u) = false := by simpa using hgt
            clear hgt hu2 hz hu
            go_wp2
            go_roundw
            case rel => exact ⟨S + 1, _, hlt, by go_num, rfl, HK1⟩
            case measure => simp [intOf]; omega
    · obtain rfl : S = P := by omega
      have HE := Lib.hid (HF.out HK.out)
      go_wp2_with (go_at_call 113; refine (HP.out _).mono ?_; rintro e w1 ⟨rfl, rfl⟩)
      go_ret
      exact ⟨by rw [HE.out]; rfl, _, rfl⟩

end Go.Proofs.Ytpildecpabeanaa

/-
  Chapter 9: InCore of both sides.
-/
namespace Go.Proofs.Ytpildecpabeanaa
open Go.RowKit

theorem icoB_fair {ts : List (List Int)} {pays : List Int} (h : VpP ts pays) : icoB ts pays = (fairB ts pays && !blB ts (at0 pays)) := by
  by_cases hf : FairP ts pays
  · by_cases hb : ∀ S, S < 2 ^ ts.length → ww ts S ≤ hv (ow ts) (at0 pays) S ts.length
    · rw [icoB_true ⟨h.1, h.2.1, h.2.2, hf, hb⟩, fairB_true hf, blB_false hb]; rfl
    · have hbl : BlP ts (at0 pays) := Classical.byContradiction (fun hn => hb (fun S hS => Int.not_lt.1 (fun hlt => hn ⟨S, hS, hlt⟩)))
      rw [icoB_false (fun hi => hb hi.2.2.2.2), blB_true hbl]; simp
  · rw [icoB_false (fun hi => hf hi.2.2.2.1), fairB_false hf]; rfl

set_option maxHeartbeats 1000000 in
theorem SInCore_any (A B : Option Addr) (c d : Nat) (ts : List (List Int)) (pays : List Int) (w : World) (h : RdR w A c ts) (g : Rd w B d pays) (hl : ts.length ≤ 1099511627776) (hl2 : ∀ r ∈ ts, r.length ≤ 1099511627776) (hpl : pays.length ≤ 1099511627776) :
    Calls Try.prog 28 #[.slice A ts.length c, .slice B pays.length d] w fun e w' => e = .returned (.bool (icoB ts pays)) ∧ Below w.heap.size w w' := by
  have HC := Lib.hid (SvalidPays_any A B c d ts pays w h g hl hl2 hpl)
  by_cases hv : VpP ts pays
  · have HE : Hid (icoB ts pays = (fairB ts pays && !blB ts (at0 pays))) := Lib.hid (icoB_fair hv)
    rw [vpB_true hv] at HC
    obtain ⟨hvt, hpn, hpb⟩ := hv
    obtain ⟨n, hn⟩ : ∃ n, n = ts.length := ⟨_, rfl⟩
    have h4 : n ≤ 4 := by have := hvt.1.2; omega
    have HPB : Hid (∀ i, i < 4 → 0 ≤ at0 pays i ∧ at0 pays i ≤ 30) := Lib.hid (fun i _ => by
      by_cases hi : i < pays.length
      · unfold at0; rw [List.getD_eq_getElem?_getD, List.getElem?_eq_getElem hi]; exact hpb _ (List.getElem_mem hi)
      · rw [at0_out (by omega)]; omega)
    rw [hpn, ← hn] at HC ⊢
    have HB := Lib.hid (fun (q : Nat) => SbestSplit_any A c n ts (w.drewN q) (h.drewN q) hvt hn.symm)
    have HFA := Lib.hid (fun (A2 : Option Addr) (c2 : Nat) (w1 : World) (hb : Below w.heap.size w w1) (hs : Rd w1 A2 c2 (setsF (wayF ts) n)) => Sfair_any A A2 B c c2 d n ts pays w1 hn.symm (by omega) (h.below hb) hvt.2 hs (g.below hb) (by omega))
    have HWS := Lib.hid (fun (w1 : World) (hb : Below w.heap.size w w1) => SworthsOf_any A c n ts w1 hn.symm (h.below hb) h4 hvt.2)
    have HBL := Lib.hid (fun (A2 A3 : Option Addr) (c2 c3 : Nat) (w1 : World) (hb : Below w.heap.size w w1) (hs : Rd w1 A2 c2 (setsF (wayF ts) n)) (hw : Rd w1 A3 c3 (vls (fun S => ww ts S) (2 ^ n))) => Sblocked_any A A2 B A3 c c2 d c3 n ts pays w1 hn.symm (by omega) (h.below hb) hvt.2 hs (g.below hb) hw h4 HPB.out)
    generalize fairB ts pays = fb at *
    generalize blB ts (at0 pays) = bb at *
    generalize 2 ^ n = P at *
    clear hvt hpn hpb hn
    go_enter Try.func28, Try.ntmps28
    go_wp2_with fail
    refine HC.out.mono ?_
    rintro e w1 ⟨rfl, q1, rfl⟩
    go_wp2_with fail
    refine (HB.out q1).mono ?_
    rintro e w2 ⟨g2, c2, rfl, o2, b2⟩
    have HS2 := Lib.hid o2.rd
    have HB2 : Hid (Below w.heap.size w w2) := Lib.hid ((below_drewN' (Below.refl _ w) q1).trans (b2.mono (Nat.le_refl _)))
    clear o2 b2
    go_wp2_with fail
    refine (HFA.out _ c2 w2 HB2.out HS2.out).mono ?_
    rintro e w3 ⟨rfl, q3, rfl⟩
    have HB3 := Lib.hid (below_drewN' HB2.out q3)
    rcases fb with _ | _
    · go_wp2
      go_ret
      exact ⟨by rw [HE.out]; rfl, HB3.out⟩
    · go_wp2_with fail
      refine (HWS.out _ HB3.out).mono ?_
      rintro e w4 ⟨g4, c4, rfl, o4, b4⟩
      have HB4 := Lib.hid (HB3.out.trans (b4.mono HB3.out.size))
      have HS4 := Lib.hid ((HS2.out.drewN q3).below b4)
      have HW4 := Lib.hid o4.rd
      clear o4 b4
      go_wp2_with fail
      refine (HBL.out _ _ c2 c4 w4 HB4.out HS4.out HW4.out).mono ?_
      rintro e w5 ⟨rfl, q5, rfl⟩
      go_wp2
      go_ret
      exact ⟨by rw [HE.out]; rfl, below_drewN' HB4.out q5⟩
  · have HE : Hid (icoB ts pays = false) := Lib.hid (icoB_false (fun hi => hv ⟨hi.1, hi.2.1, hi.2.2.1⟩))
    rw [vpB_false hv] at HC
    clear hv
    go_enter Try.func28, Try.ntmps28
    go_wp2_with (go_at_call 82; refine HC.out.mono ?_; rintro e w1 ⟨rfl, q1, rfl⟩)
    go_ret
    exact ⟨by rw [HE.out]; rfl, below_drewN' (Below.refl _ _) q1⟩

theorem InCore_both (rows : List (List Int)) (told : List Int) : ∃ (v : Bool), (rows.length ≤ 1099511627776 → (∀ r ∈ rows, r.length ≤ 1099511627776) → told.length ≤ 1099511627776 →
    (∀ A T c d w, RdR w A c rows → Rd w T d told → told.length ≤ d → Calls Try.prog 28 #[.slice A rows.length c, .slice T told.length d] w fun e w' => e = .returned (.bool v) ∧ Below w.heap.size w w') ∧
    (∀ A T c d w, RdR w A c rows → Rd w T d told → told.length ≤ d → Calls Try.prog 27 #[.slice A rows.length c, .slice T told.length d] w fun e w' => e = .returned (.bool v) ∧ Below w.heap.size w w')) :=
  ⟨icoB rows told, fun hl hl2 hl3 => ⟨fun A T c d w h1 h2 _ => SInCore_any A T c d rows told w h1 h2 hl hl2 hl3,
    fun A T c d w h1 h2 _ => InCore_any A T c d rows told w h1 h2 hl2 hl3⟩⟩

end Go.Proofs.Ytpildecpabeanaa
