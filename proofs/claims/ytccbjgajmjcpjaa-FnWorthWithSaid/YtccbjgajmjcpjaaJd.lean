/-
  Chapter 6: prices of things, what they leave, and what is in demand, by the model.
-/
import Derived.Test.YtccbjgajmjcpjaaGW
import Derived.Test.YtccbjgajmjcpjaaGJ
import Derived.Test.YtccbjgajmjcpjaaJc
namespace Go.Proofs.Ytccbjgajmjcpjaa
open Go.RowKit

/-- The first k numbers are prices. -/
def PrOk (p : List Int) (k : Nat) : Prop := ∀ i, i < k → 0 ≤ T p i ∧ T p i ≤ 40
theorem PrOk.zero (p : List Int) : PrOk p 0 := fun i h => absurd h (by omega)
theorem PrOk.next {p : List Int} {k : Nat} (h : PrOk p k) (hk : 0 ≤ T p k ∧ T p k ≤ 40) : PrOk p (k + 1) := fun i hi => by
  rcases Nat.lt_or_ge i k with h1 | h1
  · exact h i h1
  · rw [show i = k by omega]; exact hk
theorem vp_of {p : List Int} (h : PrOk p p.length) (h3 : p.length = 3) : vp p = true := vp_true ⟨h3, fun k hk => h k (by omega)⟩
theorem vp_len {p : List Int} (h3 : ¬ p.length = 3) : vp p = false := vp_false (fun h => h3 h.1)

set_option maxHeartbeats 800000 in
theorem SvalidPrices_any (A : Option Addr) (c : Nat) (p : List Int) (w : World) (h : Rd w A c p) (hl : p.length ≤ 1099511627776) :
    Calls Try.prog 75 #[.slice A p.length c] w fun e w' => e = .returned (.bool (vp p)) ∧ ∃ n, w' = w.drewN n := by
  go_enter Try.func75, Try.ntmps75
  go_wp2
  go_loopw [3] (fun i wr => ∃ k n : Nat, k ≤ p.length ∧ i = .int .i64 (k : Int) ∧ wr = w.drewN n ∧ Hid (PrOk p k)) (fun i _ => p.length - (intOf i).toNat)
  case atStart => exact ⟨0, 0, by omega, rfl, rfl, Lib.hid (PrOk.zero p)⟩
  case round =>
    obtain ⟨k, n, hk, rfl, rfl, HO⟩ := hrel
    by_cases hlt : k < p.length
    · obtain ⟨b, off, x, rfl, _, hx, hc⟩ := h.at_ hlt
      have hT := T_of hx.out
      have HB' := fun w1 => inRange_any x 0 40 w1
      by_cases hB : 0 ≤ x ∧ x ≤ 40
      · have HB : Hid (∀ w1, Calls Try.prog 97 #[.int .i64 x, .int .i64 0, .int .i64 40] w1 fun e w' => e = .returned (.bool true) ∧ w1 = w') := Lib.hid (fun w1 => by have := HB' w1; rwa [inR_true.2 hB] at this)
        have HO' := Lib.hid (HO.out.next (by rw [hT]; exact hB))
        clear hT hx hB HB'
        go_wp2_with (go_at_call 97; refine (HB.out _).mono ?_; rintro e w1 ⟨rfl, rfl⟩)
        go_roundw
        case rel => exact ⟨k + 1, _, by omega, by go_num, rfl, HO'⟩
        case measure => simp [intOf]; omega
      · have HB : Hid (∀ w1, Calls Try.prog 97 #[.int .i64 x, .int .i64 0, .int .i64 40] w1 fun e w' => e = .returned (.bool false) ∧ w1 = w') := Lib.hid (fun w1 => by have := HB' w1; rwa [inR_false.2 hB] at this)
        have HE := Lib.hid (vp_false (p := p) (fun hv => hB (by have h3 := hv.2 k (by have := hv.1; omega); rwa [hT] at h3)))
        clear hT hx hB HB'
        go_wp2_with (go_at_call 97; refine (HB.out _).mono ?_; rintro e w1 ⟨rfl, rfl⟩)
        go_ret
        exact ⟨by rw [HE.out]; rfl, _, rfl⟩
    · obtain rfl : k = p.length := by omega
      have HE : Hid (vp p = ((p.length : Int) == 3)) := Lib.hid (by
        by_cases h3 : p.length = 3
        · rw [vp_of HO.out h3, h3]; rfl
        · rw [vp_len h3]; symm; simp; omega)
      clear HO
      go_wp2
      go_ret
      exact ⟨by rw [HE.out]; rfl, _, rfl⟩

theorem prTo_bd {p : List Int} (h : VP p) {s : Nat} : ∀ j, j ≤ 3 → 0 ≤ prTo p s j ∧ prTo p s j ≤ 40 * j := by
  intro j
  induction j with
  | zero => intro _; simp [prTo]
  | succ j ih =>
    intro hj
    have h1 := ih (by omega)
    have h2 := h.2 j (by omega)
    simp only [prTo]
    generalize T p j = v at h2 ⊢
    rcases (show s / 2 ^ j % 2 = 0 ∨ s / 2 ^ j % 2 = 1 by omega) with e | e <;> rw [e]
    · simp only [Int.natCast_zero, Int.zero_mul]; omega
    · simp only [Int.natCast_one, Int.one_mul]; omega

set_option maxHeartbeats 800000 in
theorem SpriceOf_any (A : Option Addr) (c : Nat) (p : List Int) (s : Nat) (w : World) (h : Rd w A c p) (hp : VP p) (hs : s < 8) :
    Calls Try.prog 173 #[.slice A p.length c, .int .i64 (s : Int)] w fun e w' => e = .returned (.int .i64 (pr p s)) ∧ ∃ n, w' = w.drewN n := by
  have h3 := hp.1
  have HBD := Lib.hid (fun j (hj : j ≤ 3) => prTo_bd hp (s := s) j hj)
  have HV := Lib.hid hp
  clear hp
  rw [h3]
  go_enter Try.func173, Try.ntmps173
  go_wp2
  go_loopw [5, 6] (fun o i wr => ∃ k n : Nat, k ≤ 3 ∧ o = .int .i64 (prTo p s k) ∧ i = .int .i64 (k : Int) ∧ wr = w.drewN n) (fun _ i _ => 3 - (intOf i).toNat)
  case atStart => exact ⟨0, 0, by omega, rfl, rfl, rfl⟩
  case round =>
    obtain ⟨k, n, hk, rfl, rfl, rfl⟩ := hrel
    by_cases hlt : k < 3
    · obtain ⟨b, off, x, rfl, _, hx, hc⟩ := h.at_ (k := k) (by omega)
      have hT := T_of hx.out
      have HP : Hid (prTo p s (k + 1) = prTo p s k + ((s / 2 ^ k % 2 : Nat) : Int) * x) := Lib.hid (by simp only [prTo]; rw [hT])
      have HBit := Lib.hid (fun (m : Nat) => calls_q (w := w) (m := n) (Sbit_any s k hs hlt (w.drewN (n + m))))
      have hb0 := HBD.out k (by omega)
      have hxb := HV.out.2 k hlt
      rw [hT] at hxb
      have hu1 : s / 2 ^ k % 2 = 0 ∨ s / 2 ^ k % 2 = 1 := by omega
      obtain ⟨u, hu⟩ : ∃ u, u = s / 2 ^ k % 2 := ⟨_, rfl⟩
      obtain ⟨V, hV⟩ : ∃ V, V = prTo p s k := ⟨_, rfl⟩
      rw [← hu] at HP HBit hu1
      rw [← hV] at HP hb0 ⊢
      have hmul : 0 ≤ (u : Int) * x ∧ (u : Int) * x ≤ 40 := by rcases hu1 with rfl | rfl <;> simp <;> omega
      have e1 : IntKind.i64.wrap ((u : Int) * x) = (u : Int) * x := IntWalk.i64_in _ (by omega)
      have e2 : IntKind.i64.wrap (V + (u : Int) * x) = V + (u : Int) * x := IntWalk.i64_in _ (by omega)
      have hk3 : (k : Int) < 3 := by omega
      have hk0 : (0 : Int) ≤ (k : Int) := by omega
      have hk1 : k + 1 ≤ 3 := hlt
      clear hu hV hx hT hb0 hxb hmul hu1 hlt hs
      go_wp2_with fail
      go_quiet ((go_at_call 156; exact HBit.out _))
      go_wp2
      go_roundw
      case rel => exact ⟨k + 1, _, hk1, by rw [HP.out], by go_num, rfl⟩
      case measure => simp [intOf]; omega
    · obtain rfl : k = 3 := by omega
      go_wp2
      go_ret
      exact ⟨rfl, _, rfl⟩

theorem calls_qn {P : Program} {f : FuncId} {args : Array Value} {w : World} {m n : Nat} {v : Value} (h : Calls P f args (w.drewN (m + n)) fun e w' => e = .returned v ∧ ∃ k, w' = (w.drewN (m + n)).drewN k) :
    Calls P f args (w.drewN (m + n)) fun e w'' => e = .returned v ∧ ∃ k, w'' = w.drewN (m + k) := h.mono fun _ _ ⟨he, k, hw⟩ => ⟨he, n + k, by rw [hw, World.drewN_drewN, Nat.add_assoc]⟩

set_option maxHeartbeats 800000 in
theorem Ssurplus_any (A B : Option Addr) (c d : Nat) (t p : List Int) (w : World) (h : Rd w A c t) (g : Rd w B d p) (hv : VT t) (hp : VP p) :
    Calls Try.prog 146 #[.slice A t.length c, .slice B p.length d] w fun e w' => e = .returned (.int .i64 (su t p)) ∧ ∃ n, w' = w.drewN n := by
  have h8 := hv.1
  have HBD := Lib.hid (fun k (hk : k ≤ 8) => suTo_bd hv hp (k := k) hk)
  have HTB := Lib.hid (fun s (hs : s < 8) => hv.bd hs)
  have HPB := Lib.hid (fun s (hs : s < 8) => hp.bd hs)
  have HP := Lib.hid (fun s (hs : s < 8) w1 (g : Rd w1 B d p) => SpriceOf_any B d p s w1 g hp hs)
  clear hv hp
  rw [h8]
  go_enter Try.func146, Try.ntmps146
  go_wp2
  go_loopw [5, 6] (fun o i wr => ∃ k n : Nat, k ≤ 8 ∧ o = .int .i64 (suTo t p k) ∧ i = .int .i64 (k : Int) ∧ wr = w.drewN n) (fun _ i _ => 8 - (intOf i).toNat)
  case atStart => exact ⟨0, 0, by omega, rfl, rfl, rfl⟩
  case round =>
    obtain ⟨k, n, hk, rfl, rfl, rfl⟩ := hrel
    by_cases hlt : k < 8
    · obtain ⟨b, off, x, rfl, _, hx, hc⟩ := h.at_ (k := k) (by omega)
      have hT := T_of hx.out
      have HPC := Lib.hid (fun (m : Nat) => calls_qn (w := w) (m := n) (HP.out k hlt (w.drewN (n + m)) (g.drewN _)))
      have htb := HTB.out k hlt
      have hpb := HPB.out k hlt
      rw [hT] at htb
      obtain ⟨y, hy⟩ : ∃ y, y = pr p k := ⟨_, rfl⟩
      obtain ⟨V, hV⟩ : ∃ V, V = suTo t p k := ⟨_, rfl⟩
      have HS : Hid (suTo t p (k + 1) = if V < x - y then x - y else V) := Lib.hid (by simp only [suTo, lf]; rw [hT, ← hV, ← hy]; split <;> omega)
      rw [← hy] at HPC hpb
      rw [← hV]
      have e1 : IntKind.i64.wrap (x - y) = x - y := IntWalk.i64_in _ (by omega)
      have hk8 : (k : Int) < 8 := by omega
      have hk0 : (0 : Int) ≤ (k : Int) := by omega
      have hk1 : k + 1 ≤ 8 := hlt
      clear hy hV hx hT htb hpb hlt
      go_wp2_with fail
      go_quiet ((go_at_call 173; exact HPC.out _))
      go_wp2
      go_roundw
      case rel => exact ⟨k + 1, _, hk1, by rw [HS.out], by go_num, rfl⟩
      case measure => simp [intOf]; omega
    · obtain rfl : k = 8 := by omega
      go_wp2
      go_ret
      exact ⟨rfl, _, rfl⟩

/-- What SurplusAt tells. -/
noncomputable def suB (t p : List Int) : Int := if vt t && vp p then su t p else -1

/-- What DemandAt tells. -/
noncomputable def dmB (t p : List Int) : List Int := if vt t && vp p then dm t p else []
theorem dmTo_yes {t p : List Int} {k : Nat} (h : lf t p k = su t p) : dmTo t p (k + 1) = dmTo t p k ++ [(k : Int)] := by simp [dmTo, h]
theorem dmTo_no {t p : List Int} {k : Nat} (h : ¬ lf t p k = su t p) : dmTo t p (k + 1) = dmTo t p k := by simp [dmTo, h]

end Go.Proofs.Ytccbjgajmjcpjaa
