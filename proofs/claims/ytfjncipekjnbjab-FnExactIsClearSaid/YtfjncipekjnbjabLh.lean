/-
  Chapter 7: whether all bidders can be served, by the program.
-/
import Derived.Test.YtfjncipekjnbjabLa
import Derived.Test.YtfjncipekjnbjabWm
import Derived.Test.YtfjncipekjnbjabJc
namespace Go.Proofs.Ytfjncipekjnbjab
open Go.RowKit

/-- Whether each bidder can have one of the wanted sets. -/
def svA : List (List Int) → Nat → Nat → Bool
  | [], l, f => (l - (l &&& f)) == 0
  | d :: ds, l, f => d.any (fun s => ((s.toNat - (s.toNat &&& l)) == 0) && svA ds (l - (l &&& s.toNat)) f)
/-- What one of the sets tells. -/
def svO (ds : List (List Int)) (l f : Nat) (s : Int) : Bool := ((s.toNat - (s.toNat &&& l)) == 0) && svA ds (l - (l &&& s.toNat)) f
theorem svA_cons (d : List Int) (ds : List (List Int)) (l f : Nat) : svA (d :: ds) l f = d.any (svO ds l f) := rfl
def NoO (d : List Int) (ds : List (List Int)) (l f k : Nat) : Prop := (d.take k).any (svO ds l f) = false
theorem NoO.next {d : List Int} {ds : List (List Int)} {l f k : Nat} {s : Int} (h : NoO d ds l f k) (hs : d[k]? = some s) (hn : svO ds l f s = false) : NoO d ds l f (k + 1) := by
  unfold NoO at h ⊢
  rw [List.take_add_one, hs, List.any_append, h]
  simp [hn]
theorem NoO.all {d : List Int} {ds : List (List Int)} {l f : Nat} (h : NoO d ds l f d.length) : svA (d :: ds) l f = false := by
  unfold NoO at h
  rw [List.take_length] at h
  exact h
theorem svO_yes {d : List Int} {ds : List (List Int)} {l f k : Nat} {s : Int} (hs : d[k]? = some s) (h : svO ds l f s = true) : svA (d :: ds) l f = true := List.any_eq_true.2 ⟨s, List.mem_of_getElem? hs, h⟩

set_option maxRecDepth 100000 in
set_option maxHeartbeats 1600000 in
theorem servesAll_any : ∀ (ds : List (List Int)) (A : Option Addr) (c l f : Nat) (w : World), RdR w A c ds → (∀ d ∈ ds, d.length ≤ 8 ∧ ∀ x ∈ d, ∃ s : Nat, x = (s : Int) ∧ s < 8) → ds.length ≤ 4 → l < 8 → f < 8 →
    Calls Try.prog 80 #[.slice A ds.length c, .int .i64 (l : Int), .int .i64 (f : Int)] w fun e w' => e = .returned (.bool (svA ds l f)) ∧ ∃ n, w' = w.drewN n := by
  intro ds
  induction ds with
  | nil =>
    intro A c l f w h _ _ hl hf
    have e0 := andNot_nat hl hf
    obtain ⟨X, hX⟩ : ∃ X, X = l - (l &&& f) := ⟨_, rfl⟩
    have HE : Hid (svA [] l f = (X == 0)) := Lib.hid (by rw [hX]; rfl)
    rw [← hX] at e0
    have hq : ((X : Int) == 0) = (X == 0) := by rw [Bool.eq_iff_iff]; simp
    clear hX
    rcases hb : (X == 0) with _ | _
    · rw [hb] at hq
      go_enter Try.func80, Try.ntmps80
      go_wp2
      go_ret
      exact ⟨by rw [HE.out, hb]; rfl, 0, rfl⟩
    · rw [hb] at hq
      go_enter Try.func80, Try.ntmps80
      go_wp2
      go_ret
      exact ⟨by rw [HE.out, hb]; rfl, 0, rfl⟩
  | cons d ds ih =>
    intro A c l f w h hd hl4 hl hf
    have HIH := Lib.hid (fun (A : Option Addr) (c l : Nat) (w : World) (h : RdR w A c ds) (hl : l < 8) => ih A c l f w h (fun t ht => hd t (by simp [ht])) (by simp at hl4; omega) hl hf)
    clear ih
    obtain ⟨hd8, hds⟩ := hd d (by simp)
    have HDS := Lib.hid hds
    obtain ⟨b, off, hA, hcl, hrows⟩ := h.open_ (by simp)
    subst hA
    obtain ⟨A0, c0, hc0, hcap0, hrd0⟩ := hrows 0 d rfl
    rw [Nat.add_zero] at hc0
    have HRD0 := Lib.hid hrd0
    have HD := Lib.hid (fun (hc2 : 2 ≤ c) => (h.drop_ (c2 := c - 1) 1 (by simp; simp at hcl; omega) : RdR w (some ⟨b, off + 1, none⟩) (c - 1) ds))
    have HD1 := Lib.hid (fun (hc2 : c = 1) => show RdR w (some ⟨b, off, none⟩) 0 ds from by
      have : ds = [] := by have : ds.length = 0 := by simp at hcl; omega
                           exact List.eq_nil_of_length_eq_zero this
      rw [this]; exact ⟨by simp, .inl ⟨rfl, fun h => by cases h⟩⟩)
    have hc1 : 1 ≤ c := by simp at hcl; omega
    have hdl : ds.length ≤ 3 := by simp at hl4; omega
    clear hd hl4 hrows hcap0 hrd0 h hcl hds
    rw [show (d :: ds).length = ds.length + 1 from rfl]
    have hne : ((ds.length : Int) + 1 == 0) = false := by simp; omega
    have hl0 : (0 : Int) ≤ (l : Int) := by omega
    obtain ⟨LD, hLD⟩ : ∃ LD, LD = d.length := ⟨_, rfl⟩
    have HLD := Lib.hid hLD
    rw [← hLD] at hc0 hd8
    clear hLD
    go_enter Try.func80, Try.ntmps80
    go_wp2_with fail
    go_loopw [20] (fun iv wr => ∃ k m : Nat, k ≤ LD ∧ iv = .int .i64 (k : Int) ∧ wr = w.drewN m ∧ Hid (NoO d ds l f k)) (fun iv _ => LD - (intOf iv).toNat)
    case atStart => exact ⟨0, 0, by omega, rfl, rfl, Lib.hid (by simp [NoO])⟩
    case round =>
      obtain ⟨k, m, hk, rfl, rfl, HN⟩ := hrel
      by_cases hlt : k < LD
      · obtain ⟨b1, off1, x, rfl, _, hx, hcx⟩ := HRD0.out.at_ (k := k) (by rw [← HLD.out]; exact hlt)
        obtain ⟨s, rfl, hs8⟩ := HDS.out x (List.mem_of_getElem? hx.out)
        have e1 := andNot_nat hs8 hl
        have e2 := andNot_nat hl hs8
        have HNX := Lib.hid (fun (hn : svO ds l f (s : Int) = false) => HN.out.next hx.out hn)
        have HYE := Lib.hid (fun (hy : svO ds l f (s : Int) = true) => svO_yes hx.out hy)
        have HSO : Hid (svO ds l f (s : Int) = (((s - (s &&& l)) == 0) && svA ds (l - (l &&& s)) f)) := Lib.hid rfl
        have hr8 : l - (l &&& s) < 8 := Nat.lt_of_le_of_lt (Nat.sub_le _ _) hl
        have HC2 := Lib.hid (fun (hc2 : 2 ≤ c) => HIH.out (some ⟨b, off + 1, none⟩) (c - 1) (l - (l &&& s)) (w.drewN m) ((HD.out hc2).drewN _) hr8)
        have HC1 := Lib.hid (fun (hc2 : c = 1) => HIH.out (some ⟨b, off, none⟩) 0 (l - (l &&& s)) (w.drewN m) ((HD1.out hc2).drewN _) hr8)
        obtain ⟨X, hX⟩ : ∃ X, X = s - (s &&& l) := ⟨_, rfl⟩
        obtain ⟨Y, hY⟩ : ∃ Y, Y = l - (l &&& s) := ⟨_, rfl⟩
        obtain ⟨v, hv⟩ : ∃ v, v = svA ds Y f := ⟨_, rfl⟩
        rw [← hX] at e1 HSO
        rw [← hY] at e2 HSO HC1 HC2
        rw [← hv] at HSO HC1 HC2
        have hk1 : k + 1 ≤ LD := hlt
        have hkl : (k : Int) < (LD : Int) := by omega
        clear hX hY hv hx hlt hr8
        rcases hb : (X == 0) with _ | _
        · have hq : ((X : Int) == 0) = false := by rw [← hb]; rw [Bool.eq_iff_iff]; simp
          have HN' := Lib.hid (HNX.out (by rw [HSO.out, hb]; rfl))
          clear hb HSO HNX HYE HC1 HC2
          go_wp2
          go_roundw
          case rel => exact ⟨k + 1, _, hk1, by go_num, rfl, HN'⟩
          case measure => simp [intOf]; omega
        · have hq : ((X : Int) == 0) = true := by rw [← hb]; rw [Bool.eq_iff_iff]; simp
          cases v with
          | false =>
            have HN' := Lib.hid (HNX.out (by rw [HSO.out, hb]; rfl))
            clear hb HSO HNX HYE
            by_cases hc2 : 2 ≤ c
            · have HC := Lib.hid (HC2.out hc2)
              obtain ⟨e, rfl⟩ : ∃ e, c = e + 2 := ⟨c - 2, by omega⟩
              clear HC1 HC2 HIH HD HD1 hc2
              go_wp2_with fail
              refine HC.out.mono ?_
              rintro e9 w9 ⟨rfl, q, rfl⟩
              go_wp2
              go_roundw
              case rel => exact ⟨k + 1, _, hk1, by go_num, rfl, HN'⟩
              case measure => simp [intOf]; omega
            · obtain rfl : c = 1 := by omega
              have HC := Lib.hid (HC1.out rfl)
              clear HC1 HC2 HIH HD HD1 hc2
              go_wp2_with fail
              refine HC.out.mono ?_
              rintro e9 w9 ⟨rfl, q, rfl⟩
              go_wp2
              go_roundw
              case rel => exact ⟨k + 1, _, hk1, by go_num, rfl, HN'⟩
              case measure => simp [intOf]; omega
          | true =>
            have HE := Lib.hid (HYE.out (by rw [HSO.out, hb]; rfl))
            clear hb HSO HNX HYE
            by_cases hc2 : 2 ≤ c
            · have HC := Lib.hid (HC2.out hc2)
              obtain ⟨e, rfl⟩ : ∃ e, c = e + 2 := ⟨c - 2, by omega⟩
              clear HC1 HC2 HIH HD HD1 hc2
              go_wp2_with fail
              refine HC.out.mono ?_
              rintro e9 w9 ⟨rfl, q, rfl⟩
              go_wp2
              go_ret
              exact ⟨by rw [HE.out]; rfl, _, rfl⟩
            · obtain rfl : c = 1 := by omega
              have HC := Lib.hid (HC1.out rfl)
              clear HC1 HC2 HIH HD HD1 hc2
              go_wp2_with fail
              refine HC.out.mono ?_
              rintro e9 w9 ⟨rfl, q, rfl⟩
              go_wp2
              go_ret
              exact ⟨by rw [HE.out]; rfl, _, rfl⟩
      · obtain rfl : k = LD := by omega
        have HE : Hid (svA (d :: ds) l f = false) := Lib.hid (by have := HN.out; rw [HLD.out] at this; exact this.all)
        go_wp2
        go_ret
        exact ⟨by rw [HE.out]; rfl, _, rfl⟩

end Go.Proofs.Ytfjncipekjnbjab
