/-
  Chapter 9, the program: WorthWith, what all things are worth to each set of bidders, and IsNested.
-/
import Derived.Test.YtccbjgajmjcpjabSi
import Derived.Test.YtccbjgajmjcpjabWy
namespace Go.Proofs.Ytccbjgajmjcpjab
open Go.RowKit

set_option maxHeartbeats 1000000 in
theorem WorthWith_any (A : Option Addr) (c : Nat) (ts : List (List Int)) (x : Int) (w : World) (h : RdR w A c ts) (hl2 : ∀ r ∈ ts, r.length ≤ 1099511627776) :
    Calls Try.prog 58 #[.slice A ts.length c, .int .i64 x] w fun e w' => e = .returned (.int .i64 (wwB ts x)) ∧ Below w.heap.size w w' := by
  have HC := Lib.hid (areTables_any A c ts w h hl2)
  rcases hb : vtsB ts with _ | _
  · have HE : Hid (wwB ts x = -1) := Lib.hid (by unfold wwB; rw [hb]; simp)
    rw [hb] at HC
    clear hb
    go_enter Try.func58, Try.ntmps58
    go_wp2_with (go_at_call 68; refine HC.out.mono ?_; rintro e w1 ⟨rfl, hb⟩)
    go_ret
    exact ⟨by rw [HE.out]; rfl, hb⟩
  · rw [hb] at HC
    have hv := vtsB_iff.1 hb
    have h4 := hv.1.2
    obtain ⟨n, hn⟩ : ∃ n, n = ts.length := ⟨_, rfl⟩
    have hsh := sh_bit (k := n) (by omega)
    obtain ⟨P, hP⟩ : ∃ P, P = 2 ^ n := ⟨_, rfl⟩
    have hp16 := pow_len (n := n) (by omega)
    rw [← hP] at hsh hp16
    have HWB : Hid (wwB ts x = if 0 ≤ x ∧ x < (P : Int) then ww ts x.toNat else -1) := Lib.hid (by unfold wwB; rw [hb, hP, hn]; simp)
    rw [← hn] at h4 HC ⊢
    clear hP
    by_cases hx0 : x < 0
    · have HE : Hid (wwB ts x = -1) := Lib.hid (by rw [HWB.out, if_neg (by omega)])
      clear hb hv HWB hn
      go_enter Try.func58, Try.ntmps58
      go_wp2_with (go_at_call 68; refine HC.out.mono ?_; rintro e w1 ⟨rfl, hb1⟩)
      go_ret
      exact ⟨by rw [HE.out]; rfl, hb1⟩
    · by_cases hx1 : (P : Int) ≤ x
      · have HE : Hid (wwB ts x = -1) := Lib.hid (by rw [HWB.out, if_neg (by omega)])
        clear hb hv HWB hn
        go_enter Try.func58, Try.ntmps58
        go_wp2_with (go_at_call 68; refine HC.out.mono ?_; rintro e w1 ⟨rfl, hb1⟩)
        go_ret
        exact ⟨by rw [HE.out]; rfl, hb1⟩
      · obtain ⟨s, rfl⟩ : ∃ s : Nat, x = (s : Int) := ⟨x.toNat, by omega⟩
        have HE : Hid (wwB ts (s : Int) = ww ts s) := Lib.hid (by rw [HWB.out, if_pos (by omega)]; rfl)
        have HW := Lib.hid (fun (w1 : World) (h1 : Below w.heap.size w w1) => worthToSome_any A c n s ts w1 hn.symm (h.below h1) h4 (by omega) hv.2)
        clear hb hv HWB hn
        go_enter Try.func58, Try.ntmps58
        go_wp2_with (first
          | (go_at_call 68; refine HC.out.mono ?_; rintro e w1 ⟨rfl, hb1⟩; have HB1 := Lib.hid hb1; clear hb1)
          | (go_at_call 126; refine (HW.out _ HB1.out).mono ?_; rintro e w2 ⟨rfl, hb2⟩))
        go_ret
        exact ⟨by rw [HE.out]; rfl, HB1.out.trans (hb2.mono HB1.out.size)⟩

set_option maxRecDepth 100000 in
set_option maxHeartbeats 1000000 in
theorem worthsToSets_any (A : Option Addr) (c n : Nat) (ts : List (List Int)) (w : World) (hn : ts.length = n) (h : RdR w A c ts) (h4 : n ≤ 4) (hv : ∀ t ∈ ts, VT t) :
    Calls Try.prog 134 #[.slice A n c] w (ValsIs w (fun S => ww ts S) (2 ^ n)) := by
  have hsh := sh_bit (k := n) (by omega)
  have hp16 := pow_len (n := n) (by omega)
  have HW := Lib.hid (fun (k : Nat) (w1 : World) (hk : k < 16) (hb : Below w.heap.size w w1) => worthToSome_any A c n k ts w1 hn (h.below hb) h4 hk hv)
  obtain ⟨P, hP⟩ : ∃ P, P = 2 ^ n := ⟨_, rfl⟩
  rw [← hP] at hsh hp16 ⊢
  have hp1 := hp16.1
  have hp2 := hp16.2
  clear hn h hv hP hp16
  obtain ⟨f, hf⟩ : ∃ f : Nat → Int, f = (fun S => ww ts S) := ⟨_, rfl⟩
  rw [← hf]
  have HF : Hid (∀ S, ww ts S = f S) := Lib.hid (fun S => by rw [hf])
  clear hf
  have hP0 : (0 : Int) ≤ (P : Int) := by omega
  go_enter Try.func134, Try.ntmps134
  go_wp2_with (at_make; refine wpList_make_ints rfl _ _ rfl w.heap.size P (congrArg (Value.int .i64) hsh) (congrArg (Value.int .i64) hsh) (by omega) (Nat.le_refl _) ?_; intro w3 ho3 hb3)
  have HO3 : Hid (Own w3 w.heap.size (some ⟨w.heap.size, 0, none⟩) P (filled (vls f P) 0)) := Lib.hid (by rw [filled_zero, vls_len]; exact ho3)
  have HB3 := Lib.hid hb3
  clear ho3 hb3
  go_loopw [11] (fun i wr => ∃ k : Nat, k ≤ P ∧ i = .int .i64 (k : Int) ∧ Hid (Own wr w.heap.size (some ⟨w.heap.size, 0, none⟩) P (filled (vls f P) k)) ∧ Hid (Below w.heap.size w wr)) (fun i _ => P - (intOf i).toNat)
  case atStart => exact ⟨0, Nat.zero_le _, rfl, HO3, HB3⟩
  case round =>
    obtain ⟨k, hk, rfl, HO, HB⟩ := hrel
    by_cases hlt : k < P
    · have HW1 := Lib.hid (HW.out k wr (by omega) HB.out)
      rw [HF.out k] at HW1
      have hjl : k < (filled (vls f P) k).length := by rw [filled_len _ _ (by rw [vls_len]; exact hk), vls_len]; exact hlt
      obtain ⟨y, hy⟩ := at_some hjl
      have HY := Lib.hid hy
      have hkP : (k : Int) < (P : Int) := by omega
      have hk0 : (0 : Int) ≤ (k : Int) := by omega
      clear hjl hy
      go_wp2_with (go_at_call 126; refine HW1.out.mono ?_; rintro e w5 ⟨rfl, b5⟩; have HO5 := Lib.hid (HO.out.below b5); have hc5 := HO5.out.cell HY.out; have hf5 := HO5.out.free k; have HST := Lib.hid (HO5.out.set_ k (f k)); have HB5 := Lib.hid ((HB.out.trans (b5.mono HB.out.size)).setCell (p := ⟨w.heap.size, k, none⟩) (Nat.le_refl _) (.int .i64 (f k))); clear b5)
      have HP6 : Hid (Own (w5.setCell ⟨w.heap.size, k, none⟩ (.int .i64 (f k))) w.heap.size (some ⟨w.heap.size, 0, none⟩) P (filled (vls f P) (k + 1))) := Lib.hid (by
        have h := HST.out
        rwa [filled_set _ _ _ (vls_at hlt)] at h)
      clear HST
      go_roundw
      case rel => exact ⟨k + 1, hlt, by go_num, HP6, HB5⟩
      case measure => simp [intOf]; omega
    · obtain rfl : k = P := by omega
      have HE : Hid (Own wr w.heap.size (some ⟨w.heap.size, 0, none⟩) k (vls f k)) := Lib.hid (by
        have h1 := filled_all (vls f k)
        rw [vls_len] at h1
        have h2 := HO.out
        rwa [h1] at h2)
      go_wp2
      go_ret
      exact ⟨w.heap.size, _, rfl, HE.out, HB.out⟩

/-- What IsNested tells. -/
noncomputable def nsB (ts : List (List Int)) : Bool := vtsB ts && neB (ww ts) (2 ^ ts.length)

set_option maxHeartbeats 1000000 in
theorem IsNested_any (A : Option Addr) (c : Nat) (ts : List (List Int)) (w : World) (h : RdR w A c ts) (hl2 : ∀ r ∈ ts, r.length ≤ 1099511627776) :
    Calls Try.prog 63 #[.slice A ts.length c] w fun e w' => e = .returned (.bool (nsB ts)) ∧ Below w.heap.size w w' := by
  have HC := Lib.hid (areTables_any A c ts w h hl2)
  rcases hb : vtsB ts with _ | _
  · have HE : Hid (nsB ts = false) := Lib.hid (by unfold nsB; rw [hb]; rfl)
    rw [hb] at HC
    clear hb
    go_enter Try.func63, Try.ntmps63
    go_wp2_with (go_at_call 68; refine HC.out.mono ?_; rintro e w1 ⟨rfl, hb⟩)
    go_ret
    exact ⟨by rw [HE.out]; rfl, hb⟩
  · rw [hb] at HC
    have hv := vtsB_iff.1 hb
    have h4 := hv.1.2
    have HE : Hid (nsB ts = neB (T (vls (ww ts) (2 ^ ts.length))) (2 ^ ts.length)) := Lib.hid (by
      unfold nsB
      rw [hb, Bool.true_and]
      have e : ∀ S, S < 2 ^ ts.length → T (vls (ww ts) (2 ^ ts.length)) S = ww ts S := fun S hS => T_of (vls_at hS)
      have hiff : Ne2 (ww ts) (2 ^ ts.length) ↔ Ne2 (T (vls (ww ts) (2 ^ ts.length))) (2 ^ ts.length) := by
        have key : ∀ a, a < 2 ^ ts.length → ∀ b, b < 2 ^ ts.length → a ||| b < 2 ^ ts.length ∧ a &&& b < 2 ^ ts.length := fun a ha b hb => ⟨Nat.or_lt_two_pow ha hb, Nat.lt_of_le_of_lt Nat.and_le_left ha⟩
        constructor
        · intro hh a ha b hb
          rw [e _ (key a ha b hb).1, e _ (key a ha b hb).2, e a ha, e b hb]
          exact hh a ha b hb
        · intro hh a ha b hb
          have := hh a ha b hb
          rwa [e _ (key a ha b hb).1, e _ (key a ha b hb).2, e a ha, e b hb] at this
      by_cases hh : Ne2 (ww ts) (2 ^ ts.length)
      · rw [neB_true hh, neB_true (hiff.1 hh)]
      · rw [neB_false hh, neB_false (fun x => hh (hiff.2 x))])
    have HS := Lib.hid (fun (w1 : World) (h1 : Below w.heap.size w w1) => worthsToSets_any A c ts.length ts w1 rfl (h.below h1) h4 hv.2)
    have HBD : Hid (∀ s, s < 2 ^ ts.length → 0 ≤ T (vls (ww ts) (2 ^ ts.length)) s ∧ T (vls (ww ts) (2 ^ ts.length)) s ≤ 120) := Lib.hid (fun s hs => by rw [T_of (vls_at hs)]; exact ww_bd hv.2 h4 s)
    have HA := Lib.hid (fun (A1 : Option Addr) (c1 : Nat) (w1 : World) (h1 : Rd w1 A1 c1 (vls (ww ts) (2 ^ ts.length))) => addsLess_any A1 c1 ts.length (2 ^ ts.length) (vls (ww ts) (2 ^ ts.length)) w1 h1 rfl h4 (vls_len _ _) HBD.out)
    have HFX : Hid ((fun S => ww ts S) = ww ts) := Lib.hid rfl
    generalize neB (T (vls (ww ts) (2 ^ ts.length))) (2 ^ ts.length) = v at *
    generalize 2 ^ ts.length = P at *
    clear hb hv HBD
    go_enter Try.func63, Try.ntmps63
    go_wp2_with (first
      | (go_at_call 68; refine HC.out.mono ?_; rintro e w1 ⟨rfl, hb1⟩; have HB1 := Lib.hid hb1; clear hb1)
      | (go_at_call 134; refine (HS.out _ HB1.out).mono ?_; rintro e w2 ⟨g2, c2, rfl, o2, b2⟩; have HR2 := Lib.hid o2.rd; have HB2 := Lib.hid (HB1.out.trans (b2.mono HB1.out.size)); clear o2 b2)
      | (go_at_call 104; refine (HA.out _ c2 _ HR2.out).mono ?_; rintro e w3 ⟨rfl, q, rfl⟩))
    go_ret
    exact ⟨by rw [HE.out]; rfl, below_drewN' HB2.out q⟩

end Go.Proofs.Ytccbjgajmjcpjab
