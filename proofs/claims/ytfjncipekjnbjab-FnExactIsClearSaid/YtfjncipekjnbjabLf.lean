/-
  Chapter 7: whether sets clear at prices, and whether some do, by the model.
-/
import Derived.Test.YtfjncipekjnbjabLb
import Derived.Test.YtfjncipekjnbjabMa
import Derived.Test.YtfjncipekjnbjabWo
namespace Go.Proofs.Ytfjncipekjnbjab
open Go.RowKit

/-- The things that go to the first k bidders. -/
def tkF (os : List Int) (k : Nat) : Nat := ge 0 (os.getD 0 0) (os.getD 1 0) (os.getD 2 0) - ge (k : Int) (os.getD 0 0) (os.getD 1 0) (os.getD 2 0)
theorem tk_zero (os : List Int) : tkF os 0 = 0 := by unfold tkF; simp
theorem tk_lt (os : List Int) (k : Nat) : tkF os k < 8 := Nat.lt_of_le_of_lt (Nat.sub_le _ _) (ge_lt _ _ _ _)
theorem part_step {G D s : Nat} (hG : G < 8) (hD : D ∈ subs G) (hs : s ∈ subs D) : (G - D) ||| s = G - (D - s) ∧ s ∈ subs (G - (D - s)) ∧ G - (D - s) - s = G - D := by
  have h := all3 (p := fun G D s => !(D &&& G == D) || !(s &&& D == s) || ((G - D) ||| s == G - (D - s) && s &&& (G - (D - s)) == s && G - (D - s) - s == G - D)) (by decide) hG (subs_lt hD) (subs_lt hs)
  simp [subs_and hD, subs_and hs] at h
  exact ⟨h.1.1, by simp [subs, subs_lt hs, h.1.2], h.2⟩
theorem tk_step (os : List Int) (k : Nat) : tkF os k ||| setOf os k = tkF os (k + 1) ∧ setOf os k ∈ subs (tkF os (k + 1)) ∧ tkF os (k + 1) - setOf os k = tkF os k := by
  obtain ⟨h1, h2⟩ := ge_step (k : Int) (os.getD 0 0) (os.getD 1 0) (os.getD 2 0)
  have hD := ge_in (x := os.getD 0 0) (y := os.getD 1 0) (z := os.getD 2 0) (show (0 : Int) ≤ (k : Int) by omega)
  have hG := ge_lt 0 (os.getD 0 0) (os.getD 1 0) (os.getD 2 0)
  obtain ⟨e1, e2, e3⟩ := part_step hG hD h1
  rw [h2] at e1 e2 e3
  have ec : ((k + 1 : Nat) : Int) = (k : Int) + 1 := by omega
  have es : setOf os k = skn (os.getD 0 0) (os.getD 1 0) (os.getD 2 0) (k : Int) := rfl
  unfold tkF
  rw [ec, es]
  exact ⟨e1, e2, e3⟩
theorem tk_pr (p os : List Int) (k : Nat) : pr p (tkF os (k + 1)) = pr p (tkF os k) + pr p (setOf os k) := by
  obtain ⟨_, h2, h3⟩ := tk_step os k
  have := pr_sub (p := p) (tk_lt os (k + 1)) h2
  rw [h3] at this
  omega
/-- The first k sets are in demand. -/
def ClTo (ts : List (List Int)) (p os : List Int) (k : Nat) : Prop := ∀ j, j < k → ∀ t, ts[j]? = some t → lf t p (setOf os j) = su t p
/-- The sets clear at the prices. -/
def ClE (ts : List (List Int)) (p os : List Int) : Prop := ClTo ts p os ts.length ∧ pr p (7 - tkF os ts.length) = 0
theorem ClTo.next {ts : List (List Int)} {p os : List Int} {k : Nat} {t : List Int} (h : ClTo ts p os k) (ht : ts[k]? = some t) (he : lf t p (setOf os k) = su t p) : ClTo ts p os (k + 1) := fun j hj u hu => by
  rcases Nat.lt_or_ge j k with h1 | h1
  · exact h j h1 u hu
  · obtain rfl : j = k := by omega
    rw [ht] at hu
    injection hu with hu
    rw [← hu]
    exact he
theorem cl_short {ts : List (List Int)} (p os : List Int) : ∀ k, k ≤ ts.length → worthF (ts.take k) os ≤ suS (ts.take k) p + pr p (tkF os k) ∧ (worthF (ts.take k) os = suS (ts.take k) p + pr p (tkF os k) ↔ ClTo ts p os k)
  | 0, _ => by
    have h0 := (pr_vals p).1
    rw [tk_zero, h0]
    simp [worthF, wk, suS, ClTo]
  | k + 1, hk => by
    obtain ⟨h1, h2⟩ := cl_short (ts := ts) p os k (by omega)
    obtain ⟨t, ht⟩ : ∃ t, ts[k]? = some t := ⟨_, List.getElem?_eq_getElem (by omega)⟩
    have e1 := worthF_step os ht
    have e2 := suS_step p ht
    have e3 := tk_pr p os k
    have e4 := su_le (t := t) (p := p) (setOf_lt os k)
    unfold lf at e4
    rw [e1, e2, e3]
    refine ⟨by omega, ?_⟩
    constructor
    · intro h
      have h3 : worthF (ts.take k) os = suS (ts.take k) p + pr p (tkF os k) := by omega
      exact (h2.1 h3).next ht (by unfold lf; omega)
    · intro h
      have h3 := h2.2 (fun j hj => h j (by omega))
      have h4 := h k (by omega) t ht
      unfold lf at h4
      omega
theorem cle_iff {ts : List (List Int)} {p os : List Int} (hp : VP p) : ClE ts p os ↔ worthF ts os = lo ts p := by
  obtain ⟨h1, h2⟩ := cl_short (ts := ts) p os ts.length (Nat.le_refl _)
  rw [List.take_length] at h1 h2
  have h3 := pr_sub (p := p) (by omega) (in7 (tk_lt os ts.length))
  have h4 := (hp.bd (Nat.lt_of_le_of_lt (Nat.sub_le 7 (tkF os ts.length)) (by omega))).1
  unfold ClE lo
  constructor
  · rintro ⟨c1, c2⟩
    have := h2.2 c1
    omega
  · intro h
    exact ⟨h2.1 (by omega), by omega⟩
noncomputable def clB (ts : List (List Int)) (p os : List Int) : Bool := @decide (ClE ts p os) (Classical.propDecidable _)
theorem clB_true {ts : List (List Int)} {p os : List Int} (h : ClE ts p os) : clB ts p os = true := by unfold clB; simp [h]
theorem clB_false {ts : List (List Int)} {p os : List Int} (h : ¬ ClE ts p os) : clB ts p os = false := by unfold clB; simp [h]
theorem clB_iff {ts : List (List Int)} {p os : List Int} : clB ts p os = true ↔ ClE ts p os := by unfold clB; simp
/-- Whether some sets clear. -/
noncomputable def icB (ts : List (List Int)) (p : List Int) : Bool := @decide (lo ts p = sv ts 7) (Classical.propDecidable _)
theorem icB_iff {ts : List (List Int)} {p : List Int} : icB ts p = true ↔ lo ts p = sv ts 7 := by unfold icB; simp
theorem ic_yes {ts : List (List Int)} {p os : List Int} (hv : VTs ts) (hp : VP p) (h : ClE ts p os) : icB ts p = true := by
  have h1 := (cle_iff hp).1 h
  have h2 := worthF_le (ts := ts) os
  have h3 := lo_ge (VTs.zeros hv.2) hp (ts := ts)
  exact icB_iff.2 (by omega)
theorem ic_no {ts : List (List Int)} {p : List Int} (hv : VTs ts) (hp : VP p) (h : ∀ os ∈ allF (ts.length : Int) (List.replicate 3 0), ¬ ClE ts p os) : icB ts p = false := by
  rcases hb : icB ts p with _ | _
  · rfl
  · have he := icB_iff.1 hb
    obtain ⟨x, y, z, hx, hy, hz, _, _, _, hw⟩ := got_wk ts 7 0 _ (by omega) (got_sv (VTs.zeros hv.2) 7)
    have hm := ways_come hv.1.2 (x := x) (y := y) (z := z) (by omega) (by omega) (by omega)
    exact absurd ((cle_iff hp).2 (by rw [he]; exact hw)) (h _ hm)

theorem SallC_any (w : World) : Calls Try.prog 104 #[] w fun e w' => e = .returned (.int .i64 7) ∧ w = w' := by
  have HP : Hid (∀ w1, Calls Try.prog 113 #[.int .i64 3] w1 fun e w' => e = .returned (.int .i64 8) ∧ w1 = w') := Lib.hid (fun w1 => Spower_any 3 (by omega) w1)
  go_enter Try.func104, Try.ntmps104
  go_wp2_with (go_at_call 113; refine (HP.out _).mono ?_; rintro e w1 ⟨rfl, rfl⟩)
  go_ret
  exact ⟨rfl, rfl⟩
theorem less7 {x : Nat} (hx : x < 8) : bits .andNot .i64 7 (x : Int) = ((7 - x : Nat) : Int) := by
  have : ∀ x, x < 8 → bits .andNot .i64 7 ((x : Nat) : Int) = ((7 - x : Nat) : Int) := by decide
  exact this x hx

set_option maxRecDepth 100000 in
set_option maxHeartbeats 1600000 in
theorem Sclears_any (A B C : Option Addr) (c d f n : Nat) (ts : List (List Int)) (p os : List Int) (w : World) (h : RdR w A c ts) (g : Rd w B d p) (r : Rd w C f (setsF os n)) (hv : ∀ t ∈ ts, VT t) (hp : VP p) (hn : ts.length = n) (hn4 : n ≤ 4) :
    Calls Try.prog 130 #[.slice A n c, .slice B 3 d, .slice C n f] w fun e w' => e = .returned (.bool (clB ts p os)) ∧ ∃ m, w' = w.drewN m := by
  have HV := Lib.hid hv
  have HP := Lib.hid hp
  have H3 := Lib.hid hp.1
  have HN := Lib.hid hn
  have HAT := Lib.hid (fun (k : Nat) (hk : k < n) => setsF_at os hk)
  have HYES := Lib.hid (fun (h1 : ClTo ts p os n) (h2 : pr p (7 - tkF os n) = 0) => clB_true (ts := ts) (p := p) (os := os) ⟨by rw [hn]; exact h1, by rw [hn]; exact h2⟩)
  have HNO1 := Lib.hid (fun (h2 : ¬ pr p (7 - tkF os n) = 0) => clB_false (ts := ts) (p := p) (os := os) (fun h => h2 (by have := h.2; rw [hn] at this; exact this)))
  have HNO2 := Lib.hid (fun (k : Nat) (t : List Int) (hk : k < n) (ht : ts[k]? = some t) (he : ¬ lf t p (setOf os k) = su t p) => clB_false (ts := ts) (p := p) (os := os) (fun h => he (h.1 k (by rw [hn]; exact hk) t ht)))
  clear hv hp hn
  go_enter Try.func130, Try.ntmps130
  go_wp2
  go_loopw [7, 8] (fun tv iv wr => ∃ k m : Nat, k ≤ n ∧ tv = .int .i64 ((tkF os k : Nat) : Int) ∧ iv = .int .i64 (k : Int) ∧ wr = w.drewN m ∧ Hid (ClTo ts p os k)) (fun _ iv _ => n - (intOf iv).toNat)
  case atStart => exact ⟨0, 0, by omega, by rw [tk_zero]; rfl, rfl, rfl, Lib.hid (fun j hj => absurd hj (by omega))⟩
  case round =>
    obtain ⟨k, m, hk, rfl, rfl, rfl, HC⟩ := hrel
    by_cases hlt : k < n
    · obtain ⟨b, off, t, A', c', rfl, ht, hc, _, hrd⟩ := h.at_ (k := k) (by rw [HN.out]; exact hlt)
      have hvt := HV.out t (List.mem_of_getElem? ht.out)
      obtain ⟨b2, off2, x, rfl, _, hx, hcx⟩ := r.at_ (k := k) (by rw [setsF_len]; exact hlt)
      have hxe : x = ((setOf os k : Nat) : Int) := by have := HAT.out k hlt; rw [hx.out] at this; injection this
      subst hxe
      have hs8 := setOf_lt os k
      obtain ⟨b3, off3, y, rfl, _, hy, hcy⟩ := hrd.out.at_ (k := setOf os k) (by rw [hvt.1]; exact hs8)
      rw [hvt.1] at hc
      have hTy := T_of hy.out
      have hyb := hvt.bd hs8
      rw [hTy] at hyb
      have hpb := HP.out.bd hs8
      have HPR := Lib.hid (fun (q : Nat) => calls_qn (w := w) (m := m) (SpriceOf_any B d p (setOf os k) (w.drewN (m + q)) (g.drewN _) HP.out hs8))
      have HSU := Lib.hid (fun (q : Nat) => calls_qn (w := w) (m := m) (Ssurplus_any (some ⟨b3, off3, none⟩) B c' d t p (w.drewN (m + q)) (hrd.out.drewN _) (g.drewN _) hvt HP.out))
      rw [hvt.1] at HSU
      rw [H3.out] at HSU HPR
      obtain ⟨ht1, _, ht3⟩ := tk_step os k
      have htk := tk_lt os k
      have horr := or_nat htk hs8
      rw [ht1] at horr
      have HNX : Hid (y - pr p (setOf os k) = su t p → ClTo ts p os (k + 1)) := Lib.hid (fun e => HC.out.next ht.out (by unfold lf; rw [hTy]; exact e))
      have HNN : Hid (¬ y - pr p (setOf os k) = su t p → clB ts p os = false) := Lib.hid (fun e => HNO2.out k t hlt ht.out (by unfold lf; rw [hTy]; exact e))
      obtain ⟨s, hS⟩ : ∃ s, s = setOf os k := ⟨_, rfl⟩
      rw [← hS] at hcx hcy hs8 HPR horr hpb HNX HNN
      obtain ⟨P, hP⟩ : ∃ P, P = pr p s := ⟨_, rfl⟩
      rw [← hP] at HPR hpb HNX HNN
      obtain ⟨M, hM⟩ : ∃ M, M = su t p := ⟨_, rfl⟩
      rw [← hM] at HSU HNX HNN
      have hs0 : (0 : Int) ≤ (s : Int) := by omega
      have hs8' : (s : Int) < 8 := by omega
      have hk0 : (0 : Int) ≤ (k : Int) := by omega
      have hkn : (k : Int) < (n : Int) := by omega
      have hk1 : k + 1 ≤ n := hlt
      have e1 : IntKind.i64.wrap (y - P) = y - P := IntWalk.i64_in _ (by omega)
      clear hS hP hM hTy hy hvt ht hrd hyb hpb hx ht1 ht3 hlt
      by_cases he : y - P = M
      · have HC' := Lib.hid (HNX.out he)
        have hq : (y - P != M) = false := by simp [he]
        clear HNX HNN he
        go_wp2_with fail
        go_quiet (first | (go_at_call 157; exact HPR.out _) | (go_at_call 110; exact HSU.out _))
        go_wp2
        go_roundw
        case rel => exact ⟨k + 1, _, hk1, by rw [← horr], by go_num, rfl, HC'⟩
        case measure => simp [intOf]; omega
      · have HE := Lib.hid (HNN.out he)
        have hq : (y - P != M) = true := by simp [he]
        clear HNX HNN he
        go_wp2_with fail
        go_quiet (first | (go_at_call 157; exact HPR.out _) | (go_at_call 110; exact HSU.out _))
        go_wp2
        go_ret
        exact ⟨by rw [HE.out]; rfl, _, World.drewN_drewN _ _ _⟩
    · obtain rfl : k = n := by omega
      have htk := tk_lt os k
      have HY := Lib.hid (HYES.out HC.out)
      have hrs : 7 - tkF os k < 8 := Nat.lt_of_le_of_lt (Nat.sub_le _ _) (by omega)
      have HPR := Lib.hid (fun W (gW : Rd W B d p) => SpriceOf_any B d p (7 - tkF os k) W gW HP.out hrs)
      rw [H3.out] at HPR
      have hno := HNO1.out
      obtain ⟨X, hX⟩ : ∃ X, X = tkF os k := ⟨_, rfl⟩
      rw [← hX] at htk HY HPR hno ⊢
      have e0 := less7 htk
      obtain ⟨Y, hY⟩ : ∃ Y, Y = 7 - X := ⟨_, rfl⟩
      rw [← hY] at e0 HY HPR hno
      obtain ⟨P, hP⟩ : ∃ P, P = pr p Y := ⟨_, rfl⟩
      rw [← hP] at HY HPR hno
      have HNN := Lib.hid hno
      clear hX hY hP hno hlt
      by_cases hz : P = 0
      · have HE := Lib.hid (HY.out hz)
        have hq : (P == 0) = true := by simp [hz]
        clear hz HY HNN
        go_wp2_with fail
        refine (SallC_any _).mono ?_
        rintro e w5 ⟨rfl, rfl⟩
        go_wp2_with fail
        refine (HPR.out _ (g.drewN _)).mono ?_
        rintro e w6 ⟨rfl, q, rfl⟩
        go_wp2
        go_ret
        exact ⟨by rw [HE.out]; rfl, _, rfl⟩
      · have HE := Lib.hid (HNN.out hz)
        have hq : (P == 0) = false := by simp [hz]
        clear hz HY HNN
        go_wp2_with fail
        refine (SallC_any _).mono ?_
        rintro e w5 ⟨rfl, rfl⟩
        go_wp2_with fail
        refine (HPR.out _ (g.drewN _)).mono ?_
        rintro e w6 ⟨rfl, q, rfl⟩
        go_wp2
        go_ret
        exact ⟨by rw [HE.out]; rfl, _, rfl⟩

end Go.Proofs.Ytfjncipekjnbjab
