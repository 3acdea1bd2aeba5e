/-
  Chapter 1: the contracts of gain and GainOf, of the model and of the program.
-/
import Derived.Test.YtcbhjcbbjegmiaaLeast
namespace Go.Proofs.Ytcbhjcbbjegmiaa
open Go.RowKit

/-- A list of numbers of which none is beyond 2 to 31. -/
def Small (xs : List Int) : Prop := ∀ x ∈ xs, -2147483648 ≤ x ∧ x ≤ 2147483647

theorem Small.at_ {xs : List Int} {i : Nat} {x : Int} (h : Small xs) (hx : xs[i]? = some x) : -2147483648 ≤ x ∧ x ≤ 2147483647 := h x (List.mem_of_getElem? hx)
theorem Small.set_ {xs : List Int} (h : Small xs) {i : Nat} {v : Int} (h1 : -2147483648 ≤ v) (h2 : v ≤ 2147483647) : Small (xs.set i v) := by
  intro x hx
  rcases List.mem_or_eq_of_mem_set hx with h3 | h3
  · exact h x h3
  · subst h3; exact ⟨h1, h2⟩
theorem Small.erase {xs : List Int} (h : Small xs) (i : Nat) : Small (xs.eraseIdx i) := fun x hx => h x (List.mem_of_mem_eraseIdx hx)
theorem vB_small {xs : List Int} (h : vB xs = true) : Small xs := by
  simp only [vB, Bool.and_eq_true, List.all_eq_true] at h
  intro x hx
  have := inR_true.1 (h.2 x hx)
  omega
theorem Small.getD {xs : List Int} (h : Small xs) (i : Nat) : -2147483648 ≤ xs.getD i 0 ∧ xs.getD i 0 ≤ 2147483647 := by
  rw [List.getD_eq_getElem?_getD]
  cases hx : xs[i]? with
  | none => simp
  | some x => exact h.at_ hx
theorem nth_small : ∀ (m : Nat) (xs : List Int), Small xs → -2147483648 ≤ nthG m xs ∧ nthG m xs ≤ 2147483647
  | 0, xs, h => by rw [nthG_zero]; exact h.getD _
  | m + 1, xs, h => by rw [nthG_succ]; exact nth_small m _ (h.erase _)
theorem pay_small {kd : Nat} {xs : List Int} {r : Int} (h : Small xs) (h1 : -2147483648 ≤ r) (h2 : r ≤ 2147483647) : Small (payOf kd xs r) := by
  have hz : Small (List.replicate xs.length 0) := by intro x hx; rw [List.eq_of_mem_replicate hx]; decide
  unfold payOf
  split
  · exact h
  · split
    · exact hz
    · have := nth_small (kd - 1) xs h
      exact hz.set_ (by omega) (by omega)

theorem gain_win {kd : Nat} {xs : List Int} {i : Nat} {v r a p : Int} (ha : a = atOf xs r) (hp : (payOf kd xs r)[i]? = some p) (h : a = (i : Int)) : gainF kd xs i v r = v - p := by
  unfold gainF; rw [← ha, if_pos h, getD_of hp]
theorem gain_lose {kd : Nat} {xs : List Int} {i : Nat} {v r a p : Int} (ha : a = atOf xs r) (hp : (payOf kd xs r)[i]? = some p) (h : a ≠ (i : Int)) : gainF kd xs i v r = -p := by
  unfold gainF; rw [← ha, if_neg h, getD_of hp]; omega

set_option maxHeartbeats 400000 in
theorem Sgain_any (s : ByteArray) (kd : Nat) (A : Option Addr) (c : Nat) (xs : List Int) (i : Nat) (v r : Int) (w : World) (hk : KindIs s kd) (h : Rd w A c xs) (h1 : 1 ≤ xs.length) (hl : xs.length ≤ 1048576) (hi : i < xs.length)
    (hsm : Small xs) (hv0 : -2147483648 ≤ v) (hv1 : v ≤ 2147483647) (hr0 : -2147483648 ≤ r) (hr1 : r ≤ 2147483647) :
    Calls Try.prog 60 #[.string s, .slice A xs.length c, .int .i64 i, .int .i64 v, .int .i64 r] w fun e w' => e = .returned (.int .i64 (gainF kd xs i v r)) ∧ Below w.heap.size w w' := by
  obtain ⟨a, hA⟩ : ∃ a, a = atOf xs r := ⟨_, rfl⟩
  obtain ⟨p, hp⟩ := at_some (xs := payOf kd xs r) (k := i) (by rw [payOf_len]; exact hi)
  have hps := (pay_small (kd := kd) hsm hr0 hr1).at_ hp
  have hp0 := hps.1
  have hp1 := hps.2
  have HA := Lib.hid hA
  have HP := Lib.hid hp
  clear hA hp hps hsm
  go_enter Try.func60, Try.ntmps60
  go_wp2_with fail
  refine (sale_is _ kd _ _ _ _ _ HA.out hk h h1 hl).mono ?_
  rintro e w1 ⟨g, c1, rfl, ho, hb⟩
  have hc := ho.cell HP.out
  by_cases hai : a = (i : Int)
  · have HE := Lib.hid (gain_win (v := v) HA.out HP.out hai)
    have he : (a == (i : Int)) = true := by simpa using hai
    clear hai
    go_wp2
    go_ret
    exact ⟨by rw [HE.out]; rfl, hb⟩
  · have HE := Lib.hid (gain_lose (v := v) HA.out HP.out hai)
    have he : (a == (i : Int)) = false := by simpa using hai
    clear hai
    go_wp2
    go_ret
    exact ⟨by rw [HE.out]; rfl, hb⟩

set_option maxHeartbeats 800000 in
theorem gainBy_any (f : Value) (kd : Nat) (A : Option Addr) (c : Nat) (xs : List Int) (i : Nat) (v r : Int) (w : World) (hk : FnIs w f kd) (h : Rd w A c xs) (h1 : 1 ≤ xs.length) (hl : xs.length ≤ 1048576) (hi : i < xs.length)
    (hsm : Small xs) (hv0 : -2147483648 ≤ v) (hv1 : v ≤ 2147483647) (hr0 : -2147483648 ≤ r) (hr1 : r ≤ 2147483647) :
    Calls Try.prog 59 #[f, .slice A xs.length c, .int .i64 i, .int .i64 v, .int .i64 r] w fun e w' => e = .returned (.int .i64 (gainF kd xs i v r)) ∧ Below w.heap.size w w' := by
  obtain ⟨a, hA⟩ : ∃ a, a = atOf xs r := ⟨_, rfl⟩
  obtain ⟨p, hp⟩ := at_some (xs := payOf kd xs r) (k := i) (by rw [payOf_len]; exact hi)
  have hps := (pay_small (kd := kd) hsm hr0 hr1).at_ hp
  have hp0 := hps.1
  have hp1 := hps.2
  have HA := Lib.hid hA
  have HP := Lib.hid hp
  have hl2 : xs.length ≤ 1099511627776 := by omega
  clear hA hp hps hsm
  obtain ⟨b, off, rfl, _⟩ := h.open_ h1
  rcases hk with ⟨hk1, hk2, rb, rfl, hc⟩ | ⟨rfl, rfl⟩
  · have HC := Lib.hid (price_any b off c xs kd r rb w h h1 hl hk1 hk2 hc)
    rw [← HA.out] at HC
    by_cases hai : a = (i : Int)
    · have HE := Lib.hid (gain_win (v := v) HA.out HP.out hai)
      have he : (a == (i : Int)) = true := by simpa using hai
      clear hai
      go_enter Try.func59, Try.ntmps59
      go_wp2_with fail
      refine (winnerOf_n _ _ _ _ _ rfl HA.out h h1 hl2).mono ?_
      rintro e w2 ⟨rfl, rfl⟩
      go_wp2_with fail
      refine HC.out.mono ?_
      rintro e w3 ⟨g, c3, rfl, ho, hb3⟩
      have hcp := ho.cell HP.out
      go_wp2
      go_ret
      exact ⟨by rw [HE.out]; simp; omega, hb3⟩
    · have HE := Lib.hid (gain_lose (v := v) HA.out HP.out hai)
      have he : (a == (i : Int)) = false := by simpa using hai
      clear hai
      go_enter Try.func59, Try.ntmps59
      go_wp2_with fail
      refine (winnerOf_n _ _ _ _ _ rfl HA.out h h1 hl2).mono ?_
      rintro e w2 ⟨rfl, rfl⟩
      go_wp2_with fail
      refine HC.out.mono ?_
      rintro e w3 ⟨g, c3, rfl, ho, hb3⟩
      have hcp := ho.cell HP.out
      go_wp2
      go_ret
      exact ⟨by rw [HE.out]; rfl, hb3⟩
  · have HC := Lib.hid (allPay_any b off c xs a r w h hl)
    by_cases hai : a = (i : Int)
    · have HE := Lib.hid (gain_win (v := v) HA.out HP.out hai)
      have he : (a == (i : Int)) = true := by simpa using hai
      clear hai
      go_enter Try.func59, Try.ntmps59
      go_wp2_with fail
      refine (winnerOf_n _ _ _ _ _ rfl HA.out h h1 hl2).mono ?_
      rintro e w2 ⟨rfl, rfl⟩
      go_wp2_with fail
      refine HC.out.mono ?_
      rintro e w3 ⟨g, c3, rfl, ho, hb3⟩
      have hcp := ho.cell HP.out
      go_wp2
      go_ret
      exact ⟨by rw [HE.out]; simp; omega, hb3⟩
    · have HE := Lib.hid (gain_lose (v := v) HA.out HP.out hai)
      have he : (a == (i : Int)) = false := by simpa using hai
      clear hai
      go_enter Try.func59, Try.ntmps59
      go_wp2_with fail
      refine (winnerOf_n _ _ _ _ _ rfl HA.out h h1 hl2).mono ?_
      rintro e w2 ⟨rfl, rfl⟩
      go_wp2_with fail
      refine HC.out.mono ?_
      rintro e w3 ⟨g, c3, rfl, ho, hb3⟩
      have hcp := ho.cell HP.out
      go_wp2
      go_ret
      exact ⟨by rw [HE.out]; rfl, hb3⟩

theorem inR_le {x : Int} (h : inR x 0 30 = true) : 0 ≤ x ∧ x ≤ 30 := inR_true.1 h

set_option maxHeartbeats 400000 in
theorem SGainOf_yes (s : ByteArray) (kd : Nat) (A : Option Addr) (c : Nat) (xs : List Int) (i : Nat) (v r : Int) (w : World) (hk : KindIs s kd) (h : Rd w A c xs) (hl : xs.length ≤ 1048576)
    (hw : wB xs i = true) (hv : inR v 0 30 = true) (hr : inR r 0 30 = true) :
    Calls Try.prog 24 #[.string s, .slice A xs.length c, .int .i64 i, .int .i64 v, .int .i64 r] w (TwoIs w (gainF kd xs i v r) true) := by
  have hwb := wB_le hw
  have hvb := inR_le hv
  have hrb := inR_le hr
  have h1 : 1 ≤ xs.length := hwb.2.2.2.1
  have hi : i < xs.length := by omega
  have HG := Lib.hid (fun w1 (h2 : Rd w1 A c xs) => Sgain_any s kd A c xs i v r w1 hk h2 h1 hl hi (vB_small hwb.1) (by omega) (by omega) (by omega) (by omega))
  clear hwb hvb hrb
  go_enter Try.func24, Try.ntmps24
  go_wp2_with (first
    | (go_at_call 49; refine (validKind_yes s kd _ hk).mono ?_; rintro e w1 ⟨rfl, rfl⟩)
    | (go_at_call 57; refine (validWho_any _ _ _ _ _ h hl).mono ?_; rintro e w1 ⟨rfl, rfl⟩)
    | (go_at_call 51; refine (inRange_any _ _ _ _).mono ?_; rintro e w1 ⟨rfl, rfl⟩)
    | (go_at_call 60; refine (HG.out _ h).mono ?_; rintro e w1 ⟨rfl, hb⟩))
  go_ret2
  exact ⟨rfl, hb⟩

set_option maxHeartbeats 2000000 in
theorem SGainOf_no {kb wb vb rb : Bool} (s : ByteArray) (A : Option Addr) (c : Nat) (xs : List Int) (i v r : Int) (w : World)
    (hk : Calls Try.prog 49 #[.string s] w fun e w' => e = .returned (.bool kb) ∧ w = w')
    (h : Rd w A c xs) (hl : xs.length ≤ 1048576) (hw : wB xs i = wb) (hv : inR v 0 30 = vb) (hr : inR r 0 30 = rb) (hno : (kb && wb && vb && rb) = false) :
    Calls Try.prog 24 #[.string s, .slice A xs.length c, .int .i64 i, .int .i64 v, .int .i64 r] w (TwoIs w 0 false) := by
  have HK := Lib.hid hk
  clear hk
  cases kb <;> cases wb <;> cases vb <;> cases rb <;> first
    | (exact absurd hno (by decide))
    | (clear hno
       go_enter Try.func24, Try.ntmps24
       go_wp2_with (first
         | (go_at_call 49; refine HK.out.mono ?_; rintro e w1 ⟨rfl, rfl⟩)
         | (go_at_call 57; refine (validWho_any _ _ _ _ _ h hl).mono ?_; rintro e w1 ⟨rfl, rfl⟩)
         | (go_at_call 51; refine (inRange_any _ _ _ _).mono ?_; rintro e w1 ⟨rfl, rfl⟩))
       go_ret2
       exact ⟨rfl, Below.refl _ _⟩)

set_option maxHeartbeats 800000 in
theorem GainOf_yes (s : ByteArray) (kd : Nat) (A : Option Addr) (c : Nat) (xs : List Int) (i : Nat) (v r : Int) (w : World) (hk : KindIs s kd) (h : Rd w A c xs) (hl : xs.length ≤ 1048576)
    (hw : wB xs i = true) (hv : inR v 0 30 = true) (hr : inR r 0 30 = true) :
    Calls Try.prog 23 #[.string s, .slice A xs.length c, .int .i64 i, .int .i64 v, .int .i64 r] w (TwoIs w (gainF kd xs i v r) true) := by
  have hwb := wB_le hw
  have hvb := inR_le hv
  have hrb := inR_le hr
  have h1 : 1 ≤ xs.length := hwb.2.2.2.1
  have hi : i < xs.length := by omega
  have HG := Lib.hid (fun w1 f (hf : FnIs w1 f kd) (h2 : Rd w1 A c xs) => gainBy_any f kd A c xs i v r w1 hf h2 h1 hl hi (vB_small hwb.1) (by omega) (by omega) (by omega) (by omega))
  clear hwb hvb hrb
  have qf := run_eql_func
  go_enter Try.func23, Try.ntmps23
  go_wp2_with fail
  refine (saleOf_yes s kd _ hk).mono ?_
  rintro e w1 ⟨f, rfl, hF, hb1⟩
  have h2 := h.below hb1
  have HG1 := Lib.hid (HG.out w1 f hF h2)
  rcases hF with ⟨hk1, hk2, rb, rfl, hc⟩ | ⟨rfl, rfl⟩
  all_goals
    go_wp2_with (first
      | (go_at_call 55; refine (isBidder_any _ _ _ _ _ h2 hl).mono ?_; rintro e w2 ⟨rfl, rfl⟩)
      | (go_at_call 47; refine (isBid_any _ _).mono ?_; rintro e w2 ⟨rfl, rfl⟩)
      | (go_at_call 59; refine HG1.out.mono ?_; rintro e w3 ⟨rfl, hb3⟩))
    go_ret2
    exact ⟨rfl, hb1.trans (hb3.mono hb1.size)⟩

theorem GainOf_no1 (s : ByteArray) (A : Option Addr) (c : Nat) (xs : List Int) (i v r : Int) (w : World) (hk : NoKind s) :
    Calls Try.prog 23 #[.string s, .slice A xs.length c, .int .i64 i, .int .i64 v, .int .i64 r] w (TwoIs w 0 false) := by
  have qf := run_eql_nilFunc
  go_enter Try.func23, Try.ntmps23
  go_wp2_with fail
  refine (saleOf_no s _ hk).mono ?_
  rintro e w1 ⟨rfl, rfl⟩
  go_wp2
  go_ret2
  exact ⟨rfl, Below.refl _ _⟩

set_option maxHeartbeats 2000000 in
theorem GainOf_no2 {wb vb rb : Bool} (s : ByteArray) (kd : Nat) (A : Option Addr) (c : Nat) (xs : List Int) (i v r : Int) (w : World) (hk : KindIs s kd) (h : Rd w A c xs) (hl : xs.length ≤ 1048576)
    (hw : wB xs i = wb) (hv : inR v 0 30 = vb) (hr : inR r 0 30 = rb) (hno : (wb && vb && rb) = false) :
    Calls Try.prog 23 #[.string s, .slice A xs.length c, .int .i64 i, .int .i64 v, .int .i64 r] w (TwoIs w 0 false) := by
  have qf := run_eql_func
  cases wb <;> cases vb <;> cases rb <;> first
    | (exact absurd hno (by decide))
    | (clear hno
       go_enter Try.func23, Try.ntmps23
       go_wp2_with fail
       refine (saleOf_yes s kd _ hk).mono ?_
       rintro e w1 ⟨f, rfl, hF, hb1⟩
       have h2 := h.below hb1
       rcases hF with ⟨hk1, hk2, rb, rfl, hc⟩ | ⟨rfl, rfl⟩
       all_goals
         go_wp2_with (first
           | (go_at_call 55; refine (isBidder_any _ _ _ _ _ h2 hl).mono ?_; rintro e w2 ⟨rfl, rfl⟩)
           | (go_at_call 47; refine (isBid_any _ _).mono ?_; rintro e w2 ⟨rfl, rfl⟩))
         go_ret2
         exact ⟨rfl, hb1⟩)

theorem GainOf_both (s : ByteArray) (xs : List Int) (i v r : Int) (hl : xs.length ≤ 1048576) :
    ∃ (n : Int) (b : Bool),
      (∀ A c w, Rd w A c xs → Calls Try.prog 24 #[.string s, .slice A xs.length c, .int .i64 i, .int .i64 v, .int .i64 r] w (TwoIs w n b)) ∧
      (∀ A c w, Rd w A c xs → Calls Try.prog 23 #[.string s, .slice A xs.length c, .int .i64 i, .int .i64 v, .int .i64 r] w (TwoIs w n b)) := by
  rcases kind_cases s with ⟨kd, hk⟩ | hk
  · by_cases hg : (wB xs i && inR v 0 30 && inR r 0 30) = true
    · simp only [Bool.and_eq_true] at hg
      obtain ⟨⟨hw, hv⟩, hr⟩ := hg
      obtain ⟨j, rfl⟩ := Int.eq_ofNat_of_zero_le (wB_le hw).2.1
      exact ⟨_, _, fun A c w h => SGainOf_yes s kd A c xs j v r w hk h hl hw hv hr, fun A c w h => GainOf_yes s kd A c xs j v r w hk h hl hw hv hr⟩
    · have hg' : (wB xs i && inR v 0 30 && inR r 0 30) = false := by simpa using hg
      exact ⟨0, false, fun A c w h => SGainOf_no s A c xs i v r w (validKind_yes s kd w hk) h hl rfl rfl rfl (by simpa using hg'), fun A c w h => GainOf_no2 s kd A c xs i v r w hk h hl rfl rfl rfl hg'⟩
  · exact ⟨0, false, fun A c w h => SGainOf_no s A c xs i v r w (validKind_no s w hk) h hl rfl rfl rfl rfl, fun A c w _ => GainOf_no1 s A c xs i v r w hk⟩

end Go.Proofs.Ytcbhjcbbjegmiaa
