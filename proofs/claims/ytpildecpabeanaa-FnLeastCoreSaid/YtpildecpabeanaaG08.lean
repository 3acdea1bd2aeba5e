/-
  Chapter 4, the model: the contracts of validTables, splitValue and SplitWorth; both sides.
-/
import Derived.Test.YtpildecpabeanaaG07
import Derived.Test.YtpildecpabeanaaG04
namespace Go.Proofs.Ytpildecpabeanaa
open Go.RowKit

set_option maxHeartbeats 400000 in
theorem SvalidTables_any (A : Option Addr) (c : Nat) (ts : List (List Int)) (w : World) (h : RdR w A c ts) (hl : ts.length ≤ 1099511627776) (hl2 : ∀ r ∈ ts, r.length ≤ 1099511627776) :
    Calls Try.prog 74 #[.slice A ts.length c] w fun e w' => e = .returned (.bool (vtsB ts)) ∧ ∃ n, w' = w.drewN n := by
  go_enter Try.func74, Try.ntmps74
  go_wp2
  go_loopw [3] (fun i wr => ∃ k n : Nat, k ≤ ts.length ∧ i = .int .i64 k ∧ wr = w.drewN n ∧ Hid (tabsTo ts k)) (fun i _ => ts.length - (intOf i).toNat)
  case atStart => exact ⟨0, 0, Nat.zero_le _, rfl, rfl, Lib.hid (tabsTo_zero ts)⟩
  case round =>
    obtain ⟨k, n, hk, rfl, rfl, HT⟩ := hrel
    by_cases hlt : k < ts.length
    · obtain ⟨b, off, r, A', c', rfl, hr, hc, hcap, hrd⟩ := h.at_ hlt
      have hrl : r.length ≤ 1099511627776 := hl2 r (List.mem_of_getElem? hr.out)
      have HC := Lib.hid (SvalidTable_any A' c' r (w.drewN n) (hrd.out.drewN n) hrl)
      rcases hbv : vt r with _ | _
      · have HE := Lib.hid (vts_no hr.out hbv)
        rw [hbv] at HC
        clear hbv hr hrd hrl
        go_wp2_with (go_at_call 124; refine HC.out.mono ?_; rintro e w1 ⟨rfl, m, rfl⟩)
        go_ret
        exact ⟨by rw [HE.out]; rfl, _, rfl⟩
      · have HT' := Lib.hid (tabsTo_step HT.out hr.out hbv)
        rw [hbv] at HC
        clear hbv hr hrd hrl
        go_wp2_with (go_at_call 124; refine HC.out.mono ?_; rintro e w1 ⟨rfl, m, rfl⟩)
        go_roundw
        case rel => exact ⟨k + 1, _, by omega, by go_num, rfl, HT'⟩
        case measure => simp [intOf]; omega
    · obtain rfl : k = ts.length := by omega
      have HB := Lib.hid (inRange_any (ts.length : Int) 1 4)
      by_cases hlen : 1 ≤ ts.length ∧ ts.length ≤ 4
      · have HE := Lib.hid (tabsTo_all HT.out hlen)
        have HI : Hid (inR (ts.length : Int) 1 4 = true) := Lib.hid (inR_true.2 (by omega))
        clear hlen
        go_wp2_with (go_at_call 69; refine (HB.out _).mono ?_; rintro e w1 ⟨rfl, rfl⟩)
        go_ret
        exact ⟨by rw [HE.out, HI.out]; rfl, _, rfl⟩
      · have HE := Lib.hid (vts_len hlen)
        have HI : Hid (inR (ts.length : Int) 1 4 = false) := Lib.hid (inR_false.2 (by omega))
        clear hlen
        go_wp2_with (go_at_call 69; refine (HB.out _).mono ?_; rintro e w1 ⟨rfl, rfl⟩)
        go_ret
        exact ⟨by rw [HE.out, HI.out]; rfl, _, rfl⟩

theorem calls_q2 {P : Program} {f : FuncId} {args : Array Value} {w : World} {m n : Nat} {v : Value} (h : Calls P f args (w.drewN (m + n)) fun e w' => e = .returned v ∧ ∃ k, w' = (w.drewN (m + n)).drewN k) :
    Calls P f args (w.drewN (m + n)) fun e w'' => e = .returned v ∧ ∃ k, w'' = w.drewN (m + k) := h.mono fun _ _ ⟨he, k, hw⟩ => ⟨he, n + k, by rw [hw]; simp [Nat.add_assoc]⟩
theorem andNot_sub {x s : Nat} (hx : x < 8) (hs : s < 8) (h : s &&& x = s) : bits .andNot .i64 (x : Int) (s : Int) = ((x - s : Nat) : Int) := by
  rw [andNot_nat hx hs, Nat.and_comm, h]

set_option maxHeartbeats 1600000 in
theorem SsplitValue_any : ∀ (ts : List (List Int)) (A : Option Addr) (c x : Nat) (w : World), RdR w A c ts → (∀ t ∈ ts, VT t) → ts.length ≤ 4 → x < 8 →
    Calls Try.prog 126 #[.slice A ts.length c, .int .i64 (x : Int)] w fun e w' => e = .returned (.int .i64 (sv ts x)) ∧ ∃ n, w' = w.drewN n := by
  intro ts
  induction ts with
  | nil =>
    intro A c x w h _ _ _
    go_enter Try.func126, Try.ntmps126
    go_wp2
    go_ret
    exact ⟨rfl, 0, rfl⟩
  | cons t ts ih =>
    intro A c x w h hv hl hx
    have HIH := Lib.hid (fun (A : Option Addr) (c x : Nat) (w : World) (h : RdR w A c ts) (hx : x < 8) => ih A c x w h (fun t ht => hv t (by simp [ht])) (by simp at hl; omega) hx)
    clear ih
    have hvt := hv t (by simp)
    have hvs : ∀ t ∈ ts, VT t := fun t ht => hv t (by simp [ht])
    have hl3 : ts.length ≤ 3 := by simp at hl; omega
    have HBD := Lib.hid (fun (s : Nat) (hs : s ≤ 8) => mxTo_bd hvt hvs (x := x) hx hs)
    have HTB := Lib.hid (fun (s : Nat) (hs : s < 8) => hvt.bd hs)
    have HSB := Lib.hid (fun (s : Nat) (hs : s < 8) => (⟨sv_nonneg ts s, sv_bd hvs s hs⟩ : 0 ≤ sv ts s ∧ sv ts s ≤ 30 * ts.length))
    have HALL := Lib.hid (mxTo_all t ts hx)
    have HZ := Lib.hid (mxTo_zero t ts x)
    obtain ⟨b, off, hA, hcl, hrows⟩ := h.open_ (by simp)
    subst hA
    obtain ⟨A0, c0, hc0, hcap0, hrd0⟩ := hrows 0 t rfl
    rw [Nat.add_zero, hvt.1] at hc0
    obtain ⟨b0, off0, rfl⟩ := hrd0.some_ hvt.1
    have HRD0 := Lib.hid hrd0
    have h8 := hvt.1
    have HD := Lib.hid (fun (hc2 : 2 ≤ c) => (h.drop_ (c2 := c - 1) 1 (by simp; simp at hcl; omega) : RdR w (some ⟨b, off + 1, none⟩) (c - 1) ts))
    have HD1 := Lib.hid (fun (hc2 : c = 1) => show RdR w (some ⟨b, off, none⟩) 0 ts from by
      have : ts = [] := by have : ts.length = 0 := by simp at hcl; omega
                           exact List.eq_nil_of_length_eq_zero this
      rw [this]; exact ⟨by simp, .inl ⟨rfl, fun h => by cases h⟩⟩)
    have hc1 : 1 ≤ c := by simp at hcl; omega
    clear hv hl hrows hcap0 hrd0 hvt hvs h hcl
    rw [show (t :: ts).length = ts.length + 1 from rfl]
    have hx0 : (0 : Int) ≤ (x : Int) := by omega
    have hx8 : (x : Int) < 8 := by omega
    go_enter Try.func126, Try.ntmps126
    go_wp2
    go_loopw [5, 6] (fun m i wr => ∃ (s n : Nat) (v : Int), s ≤ x + 1 ∧ i = .int .i64 (s : Int) ∧ m = .int .i64 v ∧ Hid (v = mxTo t ts x s) ∧ wr = w.drewN n) (fun _ i _ => x + 1 - (intOf i).toNat)
    case atStart => exact ⟨0, 0, 0, by omega, rfl, rfl, Lib.hid HZ.out.symm, rfl⟩
    case round =>
      obtain ⟨s, n, v, hs, rfl, rfl, HV, rfl⟩ := hrel
      by_cases hlt : s ≤ x
      · have hs8 : s < 8 := by omega
        have ha := and_nat hs8 hx
        by_cases hz : s &&& x = s
        · rw [hz] at ha
          have hn := andNot_sub hx hs8 hz
          have hy8 : x - s < 8 := by omega
          have HVN := Lib.hid (mxTo_yes t ts hz)
          rw [← HV.out] at HVN
          obtain ⟨b2, off2, y, hA, _, hy, hcy⟩ := HRD0.out.at_ (k := s) (by omega)
          cases hA
          have hTy := T_of hy.out
          have h1 := HTB.out s hs8
          have h2 := HSB.out (x - s) hy8
          have h3 := HBD.out s (by omega)
          rw [hTy] at HVN h1
          rw [← HV.out] at h3
          have HC2 := Lib.hid (fun (hc2 : 2 ≤ c) (m : Nat) => calls_q2 (w := w) (m := n) (HIH.out (some ⟨b, off + 1, none⟩) (c - 1) (x - s) (w.drewN (n + m)) ((HD.out hc2).drewN _) hy8))
          have HC1 := Lib.hid (fun (hc2 : c = 1) (m : Nat) => calls_q2 (w := w) (m := n) (HIH.out (some ⟨b, off, none⟩) 0 (x - s) (w.drewN (n + m)) ((HD1.out hc2).drewN _) hy8))
          obtain ⟨p, hp⟩ : ∃ p, p = sv ts (x - s) := ⟨_, rfl⟩
          rw [← hp] at h2 HVN HC1 HC2
          obtain ⟨q, hq⟩ : ∃ q, q = x - s := ⟨_, rfl⟩
          rw [← hq] at hn HC1 HC2
          have hHV : Hid ((if v < y + p then y + p else v) = mxTo t ts x (s + 1)) := Lib.hid (by rw [HVN.out]; split <;> omega)
          have e1 : IntKind.i64.wrap (y + p) = y + p := IntWalk.i64_in _ (by omega)
          have hs0 : (0 : Int) ≤ (s : Int) := by omega
          have hs8' : (s : Int) < 8 := by omega
          have hsx : (s : Int) ≤ (x : Int) := by omega
          clear hp hq hz hy hTy HVN h1 h2 h3
          by_cases hc2 : 2 ≤ c
          · have HC := Lib.hid (HC2.out hc2)
            obtain ⟨d, rfl⟩ : ∃ d, c = d + 2 := ⟨c - 2, by omega⟩
            clear HC1 HC2 HIH HD HD1 hc2
            go_wp2_with fail
            go_quiet (first | (go_at_call 126; exact HC.out _))
            go_wp2
            go_roundw
            case rel => exact ⟨s + 1, _, _, by omega, by go_num, rfl, hHV, rfl⟩
            case measure => simp [intOf]; omega
          · obtain rfl : c = 1 := by omega
            have HC := Lib.hid (HC1.out rfl)
            clear HC1 HC2 HIH HD HD1 hc2
            go_wp2_with fail
            go_quiet (first | (go_at_call 126; exact HC.out _))
            go_wp2
            go_roundw
            case rel => exact ⟨s + 1, _, _, by omega, by go_num, rfl, hHV, rfl⟩
            case measure => simp [intOf]; omega
        · have HV' : Hid (v = mxTo t ts x (s + 1)) := Lib.hid (by rw [mxTo_no t ts hz]; exact HV.out)
          have hne : ¬ ((s &&& x : Nat) : Int) = (s : Int) := by omega
          have hsx : (s : Int) ≤ (x : Int) := by omega
          clear hz
          go_wp2
          go_roundw
          case rel => exact ⟨s + 1, _, v, by omega, by go_num, rfl, HV', rfl⟩
          case measure => simp [intOf]; omega
      · obtain rfl : s = x + 1 := by omega
        have HE : Hid (v = sv (t :: ts) x) := Lib.hid (by rw [HV.out]; exact HALL.out)
        have hsx : ¬ ((x + 1 : Nat) : Int) ≤ (x : Int) := by omega
        go_wp2
        go_ret
        exact ⟨by rw [HE.out]; rfl, _, rfl⟩

end Go.Proofs.Ytpildecpabeanaa

/-
  Chapter 8: markets of pairs: ValidRows of the program.
-/
namespace Go.Proofs.Ytpildecpabeanaa
open Go.RowKit

/-- A row of worths. -/
def wB (xs : List Int) : Bool := inR xs.length 1 4 && xs.all (fun x => inR x 0 12)
def VR (rows : List (List Int)) : Prop := (1 ≤ rows.length ∧ rows.length ≤ 4) ∧ ∀ r ∈ rows, r.length = (RW rows 0).length ∧ wB r = true
noncomputable def vrB (rows : List (List Int)) : Bool := @decide (VR rows) (Classical.propDecidable _)
theorem vr_true {rows : List (List Int)} (h : VR rows) : vrB rows = true := by unfold vrB; simp [h]
theorem vr_false {rows : List (List Int)} (h : ¬ VR rows) : vrB rows = false := by unfold vrB; simp [h]
theorem vr_iff {rows : List (List Int)} : vrB rows = true ↔ VR rows := by unfold vrB; simp
theorem vr_len {rows : List (List Int)} (h : ¬ (1 ≤ rows.length ∧ rows.length ≤ 4)) : vrB rows = false := vr_false (fun ho => h ho.1)
/-- What a row is asked. -/
def rokB (m : Nat) (r : List Int) : Bool := decide (r.length = m) && wB r
theorem vr_no {rows : List (List Int)} {k : Nat} {r : List Int} (hr : rows[k]? = some r) (h : rokB (RW rows 0).length r = false) : vrB rows = false := vr_false (fun ho => by
  have := ho.2 r (List.mem_of_getElem? hr)
  simp [rokB, this.1, this.2] at h)
def rokTo (rows : List (List Int)) (k : Nat) : Prop := ∀ (j : Nat) (r : List Int), j < k → rows[j]? = some r → rokB (RW rows 0).length r = true
theorem rokTo_step {rows : List (List Int)} {k : Nat} {r : List Int} (h : rokTo rows k) (hr : rows[k]? = some r) (hb : rokB (RW rows 0).length r = true) : rokTo rows (k + 1) := by
  intro j x hj hx
  rcases Nat.lt_or_ge j k with h' | h'
  · exact h j x h' hx
  · obtain rfl : j = k := by omega
    rw [hr] at hx; cases hx; exact hb
theorem rokTo_zero (rows : List (List Int)) : rokTo rows 0 := fun j r hj => absurd hj (by omega)
theorem rokTo_all {rows : List (List Int)} (h : rokTo rows rows.length) (hl : 1 ≤ rows.length ∧ rows.length ≤ 4) : vrB rows = true := vr_true (⟨hl, fun r hr => by
  obtain ⟨k, hk, rfl⟩ := List.getElem_of_mem hr
  have := h k _ hk (List.getElem?_eq_getElem hk)
  simp only [rokB, Bool.and_eq_true, decide_eq_true_eq] at this
  exact this⟩)
theorem wB_bad {xs : List Int} (h : xs.all (fun x => inR x 0 12) = false) : wB xs = false := by simp only [wB, h, Bool.and_false]
theorem wB_all {xs : List Int} (h : (xs.take xs.length).all (fun x => inR x 0 12) = true) : wB xs = inR xs.length 1 4 := by
  rw [List.take_length] at h; simp only [wB, h, Bool.and_true]
theorem wB_len {xs : List Int} (h : inR xs.length 1 4 = false) : wB xs = false := by simp only [wB, h, Bool.false_and]

theorem isWorth_any (n : Int) (w : World) :
    Calls Try.prog 148 #[.int .i64 n] w fun e w' => e = .returned (.bool (inR n 0 12)) ∧ w = w' := by
  by_cases h1 : 0 ≤ n
  · by_cases h2 : n ≤ 12
    · have HE := Lib.hid (inR_true.2 ⟨h1, h2⟩)
      go_enter Try.func148, Try.ntmps148
      go_wp2
      go_ret
      exact ⟨by rw [HE.out]; rfl, rfl⟩
    · have HE := Lib.hid (inR_false.2 (fun h : 0 ≤ n ∧ n ≤ 12 => h2 h.2))
      go_enter Try.func148, Try.ntmps148
      go_wp2
      go_ret
      exact ⟨by rw [HE.out]; rfl, rfl⟩
  · have HE := Lib.hid (inR_false.2 (fun h : 0 ≤ n ∧ n ≤ 12 => h1 h.1))
    go_enter Try.func148, Try.ntmps148
    go_wp2
    go_ret
    exact ⟨by rw [HE.out]; rfl, rfl⟩

set_option maxHeartbeats 400000 in
/-- areAll at worths. -/
theorem areWorths_any (A : Option Addr) (c : Nat) (xs : List Int) (w : World) (h : Rd w A c xs) (hl : xs.length ≤ 1099511627776) :
    Calls Try.prog 78 #[.slice A xs.length c, .int .i64 4, .func (.func 148) #[] #[]] w fun e w' => e = .returned (.bool (wB xs)) ∧ w = w' := by
  by_cases h1 : 1 ≤ xs.length
  · by_cases h2 : xs.length ≤ 4
    · have HR := Lib.hid (inR_true (n := (xs.length : Int)) (lo := 1) (hi := 4) |>.2 ⟨by omega, by omega⟩)
      go_enter Try.func78, Try.ntmps78
      go_wp2
      go_loop [20] (fun i => ∃ k : Nat, k ≤ xs.length ∧ i = .int .i64 k ∧ Hid ((xs.take k).all (fun x => inR x 0 12) = true)) (fun i => xs.length - (intOf i).toNat)
      case atStart => exact ⟨0, Nat.zero_le _, rfl, Lib.hid rfl⟩
      case round =>
        obtain ⟨k, hk, rfl, HT⟩ := hrel
        by_cases hlt : k < xs.length
        · obtain ⟨b, off, x, rfl, _, hx, hc⟩ := h.at_ hlt
          go_wp2_with fail
          refine (isWorth_any _ _).mono ?_
          rintro e w' ⟨rfl, rfl⟩
          cases hb : inR x 0 12 with
          | true =>
            have HT' := Lib.hid (all_step hx.out hb HT.out)
            clear hb
            go_wp2
            go_round
            case rel => exact ⟨k + 1, by omega, by go_num, HT'⟩
            case measure => simp [intOf]; omega
          | false =>
            have HE := Lib.hid (wB_bad (all_at (p := fun x => inR x 0 12) hx.out hb))
            clear hb
            go_wp2
            go_ret
            exact ⟨by rw [HE.out]; rfl, rfl⟩
        · obtain rfl : k = xs.length := by omega
          have HE := Lib.hid (wB_all HT.out)
          go_wp2
          go_ret
          exact ⟨by rw [HE.out, HR.out]; rfl, rfl⟩
    · have HE := Lib.hid (wB_len (inR_false (n := (xs.length : Int)) (lo := 1) (hi := 4) |>.2 (by omega)))
      go_enter Try.func78, Try.ntmps78
      go_wp2
      go_ret
      exact ⟨by rw [HE.out]; rfl, rfl⟩
  · have HE := Lib.hid (wB_len (inR_false (n := (xs.length : Int)) (lo := 1) (hi := 4) |>.2 (by omega)))
    go_enter Try.func78, Try.ntmps78
    go_wp2
    go_ret
    exact ⟨by rw [HE.out]; rfl, rfl⟩

set_option maxHeartbeats 400000 in
theorem rowOk_any (A A' : Option Addr) (c c' p : Nat) (rows : List (List Int)) (r : List Int) (w : World) (hR : RdR w A c rows) (h1 : 1 ≤ rows.length) (hb : w.cell? ⟨p, 0, none⟩ = some (.slice A rows.length c)) (h : Rd w A' c' r) (hl : rows.length ≤ 4) (hl2 : ∀ r ∈ rows, r.length ≤ 1099511627776) (hrl : r.length ≤ 1099511627776) :
    Calls Try.prog 147 #[.slice A' r.length c', .pointer (some ⟨p, 0, none⟩)] w fun e w' => e = .returned (.bool (rokB (RW rows 0).length r)) ∧ ∃ n, w' = w.drewN n := by
  obtain ⟨b, off, r0, A0, c0, rfl, hr0, hc0, hcap0, hrd0⟩ := hR.at_ (k := 0) h1
  have e0 : RW rows 0 = r0 := rw_of hr0.out
  have hr0l : r0.length ≤ 1099511627776 := hl2 r0 (List.mem_of_getElem? hr0.out)
  have HC := Lib.hid (areWorths_any A' c' r w h hrl)
  rw [e0]
  rw [Nat.add_zero] at hc0
  clear e0 hr0 hrd0
  by_cases he : r.length = r0.length
  · have HE : Hid (rokB r0.length r = wB r) := Lib.hid (by simp [rokB, he])
    have he' : (r.length : Int) = (r0.length : Int) := by omega
    clear he
    go_enter Try.func147, Try.ntmps147
    go_wp2_with (go_at_call 78; refine HC.out.mono ?_; rintro e w1 ⟨rfl, rfl⟩)
    go_ret
    exact ⟨by rw [HE.out]; rfl, 0, rfl⟩
  · have HE : Hid (rokB r0.length r = false) := Lib.hid (by simp [rokB, he])
    have he' : ¬ (r.length : Int) = (r0.length : Int) := by omega
    clear he
    go_enter Try.func147, Try.ntmps147
    go_wp2_with (go_at_call 78; refine HC.out.mono ?_; rintro e w1 ⟨rfl, rfl⟩)
    go_ret
    exact ⟨by rw [HE.out]; rfl, 0, rfl⟩

set_option maxHeartbeats 400000 in
theorem areMarket_any (A : Option Addr) (c p : Nat) (rows : List (List Int)) (w : World) (h : RdR w A c rows) (hb : w.cell? ⟨p, 0, none⟩ = some (.slice A rows.length c)) (hl : rows.length ≤ 1099511627776) (hl2 : ∀ r ∈ rows, r.length ≤ 1099511627776) :
    Calls Try.prog 132 #[.slice A rows.length c, .int .i64 4, .func (.func 147) #[] #[.pointer (some ⟨p, 0, none⟩)]] w fun e w' => e = .returned (.bool (vrB rows)) ∧ ∃ n, w' = w.drewN n := by
  by_cases h1 : rows.length < 1
  · have HE := Lib.hid (vr_len (rows := rows) (by omega))
    go_enter Try.func132, Try.ntmps132
    go_wp2
    go_ret
    exact ⟨by rw [HE.out]; rfl, 0, rfl⟩
  by_cases h4 : 4 < rows.length
  · have HE := Lib.hid (vr_len (rows := rows) (by omega))
    go_enter Try.func132, Try.ntmps132
    go_wp2
    go_ret
    exact ⟨by rw [HE.out]; rfl, 0, rfl⟩
  have h1' : 1 ≤ rows.length := by omega
  have h4' : rows.length ≤ 4 := by omega
  clear h1 h4
  go_enter Try.func132, Try.ntmps132
  go_wp2
  go_loopw [20] (fun i wr => ∃ k n : Nat, k ≤ rows.length ∧ i = .int .i64 k ∧ wr = w.drewN n ∧ Hid (rokTo rows k)) (fun i _ => rows.length - (intOf i).toNat)
  case atStart => exact ⟨0, 0, Nat.zero_le _, rfl, rfl, Lib.hid (rokTo_zero rows)⟩
  case round =>
    obtain ⟨k, n, hk, rfl, rfl, HT⟩ := hrel
    by_cases hlt : k < rows.length
    · obtain ⟨b, off, r, A', c', rfl, hr, hc, hcap, hrd⟩ := h.at_ hlt
      have hrl : r.length ≤ 1099511627776 := hl2 r (List.mem_of_getElem? hr.out)
      have HC : Hid (∀ n, Calls Try.prog 147 #[.slice A' r.length c', .pointer (some ⟨p, 0, none⟩)] (w.drewN n) fun e w' => e = .returned (.bool (rokB (RW rows 0).length r)) ∧ ∃ m, w' = (w.drewN n).drewN m) := Lib.hid (fun n => rowOk_any (some ⟨b, off, none⟩) A' c c' p rows r (w.drewN n) (h.drewN n) h1' hb (hrd.out.drewN n) h4' hl2 hrl)
      rcases hbk : rokB (RW rows 0).length r with _ | _
      · have HE := Lib.hid (vr_no hr.out hbk)
        rw [hbk] at HC
        clear hbk hr hrd hrl
        go_wp2_with (go_at_call 147; refine (HC.out _).mono ?_; rintro e w1 ⟨rfl, m, rfl⟩)
        go_ret
        exact ⟨by rw [HE.out]; rfl, _, rfl⟩
      · have HT' := Lib.hid (rokTo_step HT.out hr.out hbk)
        rw [hbk] at HC
        clear hbk hr hrd hrl
        go_wp2_with (go_at_call 147; refine (HC.out _).mono ?_; rintro e w1 ⟨rfl, m, rfl⟩)
        go_roundw
        case rel => exact ⟨k + 1, _, by omega, by go_num, rfl, HT'⟩
        case measure => simp [intOf]; omega
    · obtain rfl : k = rows.length := by omega
      have HE := Lib.hid (rokTo_all HT.out ⟨h1', h4'⟩)
      go_wp2
      go_ret
      exact ⟨by rw [HE.out]; rfl, _, rfl⟩

set_option maxHeartbeats 400000 in
theorem ValidRows_any (A : Option Addr) (c : Nat) (rows : List (List Int)) (w : World) (h : RdR w A c rows) (hl : rows.length ≤ 1099511627776) (hl2 : ∀ r ∈ rows, r.length ≤ 1099511627776) :
    Calls Try.prog 98 #[.slice A rows.length c] w fun e w' => e = .returned (.bool (vrB rows)) ∧ Below w.heap.size w w' := by
  have b1 := (Below.refl w.heap.size w).alloc (Nat.le_refl _) (.cells #[.slice A rows.length c] 35)
  have hc : (w.alloc (.cells #[.slice A rows.length c] 35)).cell? ⟨w.heap.size, 0, none⟩ = some (.slice A rows.length c) := by rw [World.cell?_alloc_new]; rfl
  have HC := Lib.hid (areMarket_any A c w.heap.size rows _ (h.below b1) hc hl hl2)
  have HB := Lib.hid b1
  clear b1 hc
  go_enter Try.func98, Try.ntmps98
  go_wp2_with (go_at_call 132; refine HC.out.mono ?_; rintro e w1 ⟨rfl, m, rfl⟩)
  go_ret
  exact ⟨rfl, below_drewN' HB.out m⟩
end Go.Proofs.Ytpildecpabeanaa

/-
  Chapter 8: markets of pairs: validRows and ValidRows of the model.
-/
namespace Go.Proofs.Ytpildecpabeanaa
open Go.RowKit

def sokTo (rows : List (List Int)) (k : Nat) : Prop := ∀ (j : Nat) (r : List Int), j < k → rows[j]? = some r → r.length = (RW rows 0).length ∧ r.all (fun x => inR x 0 12) = true
theorem sokTo_zero (rows : List (List Int)) : sokTo rows 0 := fun j r hj => absurd hj (by omega)
theorem sokTo_step {rows : List (List Int)} {k : Nat} {r : List Int} (h : sokTo rows k) (hr : rows[k]? = some r) (h1 : r.length = (RW rows 0).length) (h2 : (r.take r.length).all (fun x => inR x 0 12) = true) : sokTo rows (k + 1) := by
  intro j x hj hx
  rcases Nat.lt_or_ge j k with h' | h'
  · exact h j x h' hx
  · obtain rfl : j = k := by omega
    rw [hr] at hx; cases hx
    rw [List.take_length] at h2
    exact ⟨h1, h2⟩
theorem vr_bad {rows : List (List Int)} {k : Nat} {r : List Int} (hr : rows[k]? = some r) (h : r.all (fun x => inR x 0 12) = false) : vrB rows = false := vr_no hr (by simp [rokB, wB_bad h])
theorem vr_row {rows : List (List Int)} {k : Nat} {r : List Int} (hr : rows[k]? = some r) (h : ¬ r.length = (RW rows 0).length) : vrB rows = false := vr_no hr (by simp [rokB, h])
theorem sokTo_all {rows : List (List Int)} (h : sokTo rows rows.length) (h1 : 1 ≤ rows.length ∧ rows.length ≤ 4) : vrB rows = inR ((RW rows 0).length : Int) 1 4 := by
  cases hb : inR ((RW rows 0).length : Int) 1 4 with
  | true =>
    refine vr_true ⟨h1, fun r hr => ?_⟩
    obtain ⟨k, hk, rfl⟩ := List.getElem_of_mem hr
    obtain ⟨a, b⟩ := h k _ hk (List.getElem?_eq_getElem hk)
    refine ⟨a, ?_⟩
    simp only [wB, a, b, hb]; rfl
  | false =>
    refine vr_false (fun ho => ?_)
    have := (ho.2 _ (rw_mem (rows := rows) (i := 0) (by omega))).2
    simp only [wB, hb, Bool.false_and] at this
    cases this

set_option maxHeartbeats 800000 in
theorem validRows_any (A : Option Addr) (c : Nat) (rows : List (List Int)) (w : World) (h : RdR w A c rows) (hl : rows.length ≤ 1099511627776) (hl2 : ∀ r ∈ rows, r.length ≤ 1099511627776) :
    Calls Try.prog 105 #[.slice A rows.length c] w fun e w' => e = .returned (.bool (vrB rows)) ∧ ∃ n, w' = w.drewN n := by
  go_enter Try.func105, Try.ntmps105
  go_wp2
  go_loopw [3] (fun i wr => ∃ k n : Nat, k ≤ rows.length ∧ i = .int .i64 k ∧ wr = w.drewN n ∧ Hid (sokTo rows k)) (fun i _ => rows.length - (intOf i).toNat)
  case atStart => exact ⟨0, 0, Nat.zero_le _, rfl, rfl, Lib.hid (sokTo_zero rows)⟩
  case round =>
    obtain ⟨k, n, hk, rfl, rfl, HT⟩ := hrel
    by_cases hlt : k < rows.length
    · obtain ⟨b, off, r, A', c', rfl, hr, hc, hcap, hrd⟩ := h.at_ hlt
      obtain ⟨b0, off0, r0, A0, c0, hA0, hr0, hc0, hcap0, hrd0⟩ := h.at_ (k := 0) (by omega)
      cases hA0
      have e0 := Lib.hid (rw_of hr0.out)
      rw [Nat.add_zero] at hc0
      clear hr0 hrd0
      have hrl : r.length ≤ 1099511627776 := hl2 r (List.mem_of_getElem? hr.out)
      by_cases he : r.length = r0.length
      · have he' : (r.length : Int) = (r0.length : Int) := by omega
        have HEQ : Hid (r.length = (RW rows 0).length) := Lib.hid (by rw [e0.out]; exact he)
        clear he
        go_wp2_with fail
        go_quiet (fail)
        go_wp2
        go_loopw [4] (fun i wr => ∃ j m : Nat, j ≤ r.length ∧ i = .int .i64 j ∧ wr = w.drewN m ∧ Hid ((r.take j).all (fun x => inR x 0 12) = true)) (fun i _ => r.length - (intOf i).toNat)
        case atStart => exact ⟨0, _, Nat.zero_le _, rfl, World.drewN_drewN _ _ _, Lib.hid rfl⟩
        case round =>
          clear he' hc0 hcap0
          obtain ⟨j, m, hj, rfl, rfl, HJ⟩ := hrel
          by_cases hjl : j < r.length
          · obtain ⟨b2, o2, x, rfl, _, hx, hcx⟩ := hrd.out.at_ hjl
            cases hb : inR x 0 12 with
            | true =>
              have HB : Hid (∀ w1, Calls Try.prog 69 #[.int .i64 x, .int .i64 0, .int .i64 12] w1 fun e w' => e = .returned (.bool true) ∧ w1 = w') := Lib.hid (fun w1 => by have := inRange_any x 0 12 w1; rwa [hb] at this)
              have HT' := Lib.hid (all_step hx.out hb HJ.out)
              clear hb
              go_wp2_with (go_at_call 69; refine (HB.out _).mono ?_; rintro e w1 ⟨rfl, rfl⟩)
              go_roundw
              case rel => exact ⟨j + 1, _, by omega, by go_num, rfl, HT'⟩
              case measure => simp [intOf]; omega
            | false =>
              have HB : Hid (∀ w1, Calls Try.prog 69 #[.int .i64 x, .int .i64 0, .int .i64 12] w1 fun e w' => e = .returned (.bool false) ∧ w1 = w') := Lib.hid (fun w1 => by have := inRange_any x 0 12 w1; rwa [hb] at this)
              have HE := Lib.hid (vr_bad hr.out (all_at (p := fun x => inR x 0 12) hx.out hb))
              clear hb
              go_wp2_with (go_at_call 69; refine (HB.out _).mono ?_; rintro e w1 ⟨rfl, rfl⟩)
              go_ret
              exact ⟨by rw [HE.out]; rfl, _, rfl⟩
          · obtain rfl : j = r.length := by omega
            have HT' := Lib.hid (sokTo_step HT.out hr.out HEQ.out HJ.out)
            go_wp2
            go_roundw
            case rel => exact ⟨k + 1, _, by omega, by go_num, rfl, HT'⟩
            case measure => simp [intOf]; omega
      · have he' : ¬ (r.length : Int) = (r0.length : Int) := by omega
        have HE := Lib.hid (vr_row hr.out (by rw [e0.out]; exact he))
        clear he
        go_wp2_with fail
        go_quiet (fail)
        go_wp2
        go_ret
        exact ⟨by rw [HE.out]; rfl, _, World.drewN_drewN _ _ _⟩
    · obtain rfl : k = rows.length := by omega
      have HB := Lib.hid (inRange_any (rows.length : Int) 1 4)
      by_cases hlen : 1 ≤ rows.length ∧ rows.length ≤ 4
      · have HE := Lib.hid (sokTo_all HT.out hlen)
        have HI : Hid (inR (rows.length : Int) 1 4 = true) := Lib.hid (inR_true.2 (by omega))
        rw [HI.out] at HB
        obtain ⟨b0, off0, r0, A0, c0, hA0, hr0, hc0, hcap0, hrd0⟩ := h.at_ (k := 0) (by omega)
        have e0 := rw_of hr0.out
        rw [e0] at HE
        subst hA0
        rw [Nat.add_zero] at hc0
        have HB0 := Lib.hid (inRange_any (r0.length : Int) 1 4)
        have h1l : 1 ≤ rows.length := hlen.1
        clear hlen e0 hr0 hrd0 HI
        go_wp2_with (go_at_call 69; first | ((with_reducible refine (HB.out _).mono ?_); rintro e w1 ⟨rfl, rfl⟩) | ((with_reducible refine (HB0.out _).mono ?_); rintro e w1 ⟨rfl, rfl⟩))
        go_ret
        exact ⟨by rw [HE.out]; rfl, _, rfl⟩
      · have HE := Lib.hid (vr_len hlen)
        have HI : Hid (inR (rows.length : Int) 1 4 = false) := Lib.hid (inR_false.2 (by omega))
        rw [HI.out] at HB
        clear hlen HI
        go_wp2_with (go_at_call 69; refine (HB.out _).mono ?_; rintro e w1 ⟨rfl, rfl⟩)
        go_ret
        exact ⟨by rw [HE.out]; rfl, _, rfl⟩

end Go.Proofs.Ytpildecpabeanaa
