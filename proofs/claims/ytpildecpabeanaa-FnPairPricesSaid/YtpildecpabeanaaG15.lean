/-
  Chapter 4, the model: the contracts of validTables, splitValue and SplitWorth; both sides.
-/
import Derived.Test.YtpildecpabeanaaWj
import Derived.Test.YtpildecpabeanaaMem
namespace Go.Proofs.Ytpildecpabeanaa
open Go.RowKit

set_option maxHeartbeats 400000 in
theorem SvalidTables_any (A : Option Addr) (c : Nat) (ts : List (List Int)) (w : World) (h : RdR w A c ts) (hl : ts.length ≤ 1099511627776) (hl2 : ∀ r ∈ ts, r.length ≤ 1099511627776) :
    Calls Try.prog 74 #[.slice A ts.length c] w fun e w' => e = .returned (.bool (vtsB ts)) ∧ ∃ n, w' = w.drewN n := by
  go_enter Try.func74, Try.ntmps74
  go_wp2
  go_loopw [3] (fun i wr => ∃ k n : Nat, k ≤ ts.length ∧ i = .int .i64 k ∧ wr = w.drewN n ∧ Hid (tabsTo ts k)) (fun i _ => ts.length - (intOf i).toNat)
  case atStart => exact ⟨0, 0, Nat.zero_le _, rfl, rfl, Lib.hid (tabsTo_zero ts)⟩
  case round =>
    obtain ⟨k, n, hk, rfl, rfl, HT⟩ := hrel
    by_cases hlt : k < ts.length
    · obtain ⟨b, off, r, A', c', rfl, hr, hc, hcap, hrd⟩ := h.at_ hlt
      have hrl : r.length ≤ 1099511627776 := hl2 r (List.mem_of_getElem? hr.out)
      have HC := Lib.hid (SvalidTable_any A' c' r (w.drewN n) (hrd.out.drewN n) hrl)
      rcases hbv : vt r with _ | _
      · have HE := Lib.hid (vts_no hr.out hbv)
        rw [hbv] at HC
        clear hbv hr hrd hrl
        go_wp2_with (go_at_call 124; refine HC.out.mono ?_; rintro e w1 ⟨rfl, m, rfl⟩)
        go_ret
        exact ⟨by rw [HE.out]; rfl, _, rfl⟩
      · have HT' := Lib.hid (tabsTo_step HT.out hr.out hbv)
        rw [hbv] at HC
        clear hbv hr hrd hrl
        go_wp2_with (go_at_call 124; refine HC.out.mono ?_; rintro e w1 ⟨rfl, m, rfl⟩)
        go_roundw
        case rel => exact ⟨k + 1, _, by omega, by go_num, rfl, HT'⟩
        case measure => simp [intOf]; omega
    · obtain rfl : k = ts.length := by omega
      have HB := Lib.hid (inRange_any (ts.length : Int) 1 4)
      by_cases hlen : 1 ≤ ts.length ∧ ts.length ≤ 4
      · have HE := Lib.hid (tabsTo_all HT.out hlen)
        have HI : Hid (inR (ts.length : Int) 1 4 = true) := Lib.hid (inR_true.2 (by omega))
        clear hlen
        go_wp2_with (go_at_call 69; refine (HB.out _).mono ?_; rintro e w1 ⟨rfl, rfl⟩)
        go_ret
        exact ⟨by rw [HE.out, HI.out]; rfl, _, rfl⟩
      · have HE := Lib.hid (vts_len hlen)
        have HI : Hid (inR (ts.length : Int) 1 4 = false) := Lib.hid (inR_false.2 (by omega))
        clear hlen
        go_wp2_with (go_at_call 69; refine (HB.out _).mono ?_; rintro e w1 ⟨rfl, rfl⟩)
        go_ret
        exact ⟨by rw [HE.out, HI.out]; rfl, _, rfl⟩

theorem calls_q2 {P : Program} {f : FuncId} {args : Array Value} {w : World} {m n : Nat} {v : Value} (h : Calls P f args (w.drewN (m + n)) fun e w' => e = .returned v ∧ ∃ k, w' = (w.drewN (m + n)).drewN k) :
    Calls P f args (w.drewN (m + n)) fun e w'' => e = .returned v ∧ ∃ k, w'' = w.drewN (m + k) := h.mono fun _ _ ⟨he, k, hw⟩ => ⟨he, n + k, by rw [hw]; simp [Nat.add_assoc]⟩
theorem andNot_sub {x s : Nat} (hx : x < 8) (hs : s < 8) (h : s &&& x = s) : bits .andNot .i64 (x : Int) (s : Int) = ((x - s : Nat) : Int) := by
  rw [andNot_nat hx hs, Nat.and_comm, h]

set_option maxHeartbeats 1600000 in
theorem SsplitValue_any : ∀ (ts : List (List Int)) (A : Option Addr) (c x : Nat) (w : World), RdR w A c ts → (∀ t ∈ ts, VT t) → ts.length ≤ 4 → x < 8 →
    Calls Try.prog 126 #[.slice A ts.length c, .int .i64 (x : Int)] w fun e w' => e = .returned (.int .i64 (sv ts x)) ∧ ∃ n, w' = w.drewN n := by
  intro ts
  induction ts with
  | nil =>
    intro A c x w h _ _ _
    go_enter Try.func126, Try.ntmps126
    go_wp2
    go_ret
    exact ⟨rfl, 0, rfl⟩
  | cons t ts ih =>
    intro A c x w h hv hl hx
    have HIH := Lib.hid (fun (A : Option Addr) (c x : Nat) (w : World) (h : RdR w A c ts) (hx : x < 8) => ih A c x w h (fun t ht => hv t (by simp [ht])) (by simp at hl; omega) hx)
    clear ih
    have hvt := hv t (by simp)
    have hvs : ∀ t ∈ ts, VT t := fun t ht => hv t (by simp [ht])
    have hl3 : ts.length ≤ 3 := by simp at hl; omega
    have HBD := Lib.hid (fun (s : Nat) (hs : s ≤ 8) => mxTo_bd hvt hvs (x := x) hx hs)
    have HTB := Lib.hid (fun (s : Nat) (hs : s < 8) => hvt.bd hs)
    have HSB := Lib.hid (fun (s : Nat) (hs : s < 8) => (⟨sv_nonneg ts s, sv_bd hvs s hs⟩ : 0 ≤ sv ts s ∧ sv ts s ≤ 30 * ts.length))
    have HALL := Lib.hid (mxTo_all t ts hx)
    have HZ := Lib.hid (mxTo_zero t ts x)
    obtain ⟨b, off, hA, hcl, hrows⟩ := h.open_ (by simp)
    subst hA
    obtain ⟨A0, c0, hc0, hcap0, hrd0⟩ := hrows 0 t rfl
    rw [Nat.add_zero, hvt.1] at hc0
    obtain ⟨b0, off0, rfl⟩ := hrd0.some_ hvt.1
    have HRD0 := Lib.hid hrd0
    have h8 := hvt.1
    have HD := Lib.hid (fun (hc2 : 2 ≤ c) => (h.drop_ (c2 := c - 1) 1 (by simp; simp at hcl; omega) : RdR w (some ⟨b, off + 1, none⟩) (c - 1) ts))
    have HD1 := Lib.hid (fun (hc2 : c = 1) => show RdR w (some ⟨b, off, none⟩) 0 ts from by
      have : ts = [] := by have : ts.length = 0 := by simp at hcl; omega
                           exact List.eq_nil_of_length_eq_zero this
      rw [this]; exact ⟨by simp, .inl ⟨rfl, fun h => by cases h⟩⟩)
    have hc1 : 1 ≤ c := by simp at hcl; omega
    clear hv hl hrows hcap0 hrd0 hvt hvs h hcl
    rw [show (t :: ts).length = ts.length + 1 from rfl]
    have hx0 : (0 : Int) ≤ (x : Int) := by omega
    have hx8 : (x : Int) < 8 := by omega
    go_enter Try.func126, Try.ntmps126
    go_wp2
    go_loopw [5, 6] (fun m i wr => ∃ (s n : Nat) (v : Int), s ≤ x + 1 ∧ i = .int .i64 (s : Int) ∧ m = .int .i64 v ∧ Hid (v = mxTo t ts x s) ∧ wr = w.drewN n) (fun _ i _ => x + 1 - (intOf i).toNat)
    case atStart => exact ⟨0, 0, 0, by omega, rfl, rfl, Lib.hid HZ.out.symm, rfl⟩
    case round =>
      obtain ⟨s, n, v, hs, rfl, rfl, HV, rfl⟩ := hrel
      by_cases hlt : s ≤ x
      · have hs8 : s < 8 := by omega
        have ha := and_nat hs8 hx
        by_cases hz : s &&& x = s
        · rw [hz] at ha
          have hn := andNot_sub hx hs8 hz
          have hy8 : x - s < 8 := by omega
          have HVN := Lib.hid (mxTo_yes t ts hz)
          rw [← HV.out] at HVN
          obtain ⟨b2, off2, y, hA, _, hy, hcy⟩ := HRD0.out.at_ (k := s) (by omega)
          cases hA
          have hTy := T_of hy.out
          have h1 := HTB.out s hs8
          have h2 := HSB.out (x - s) hy8
          have h3 := HBD.out s (by omega)
          rw [hTy] at HVN h1
          rw [← HV.out] at h3
          have HC2 := Lib.hid (fun (hc2 : 2 ≤ c) (m : Nat) => calls_q2 (w := w) (m := n) (HIH.out (some ⟨b, off + 1, none⟩) (c - 1) (x - s) (w.drewN (n + m)) ((HD.out hc2).drewN _) hy8))
          have HC1 := Lib.hid (fun (hc2 : c = 1) (m : Nat) => calls_q2 (w := w) (m := n) (HIH.out (some ⟨b, off, none⟩) 0 (x - s) (w.drewN (n + m)) ((HD1.out hc2).drewN _) hy8))
          obtain ⟨p, hp⟩ : ∃ p, p = sv ts (x - s) := ⟨_, rfl⟩
          rw [← hp] at h2 HVN HC1 HC2
          obtain ⟨q, hq⟩ : ∃ q, q = x - s := ⟨_, rfl⟩
          rw [← hq] at hn HC1 HC2
          have hHV : Hid ((if v < y + p then y + p else v) = mxTo t ts x (s + 1)) := Lib.hid (by rw [HVN.out]; split <;> omega)
          have e1 : IntKind.i64.wrap (y + p) = y + p := IntWalk.i64_in _ (by omega)
          have hs0 : (0 : Int) ≤ (s : Int) := by omega
          have hs8' : (s : Int) < 8 := by omega
          have hsx : (s : Int) ≤ (x : Int) := by omega
          clear hp hq hz hy hTy HVN h1 h2 h3
          by_cases hc2 : 2 ≤ c
          · have HC := Lib.hid (HC2.out hc2)
            obtain ⟨d, rfl⟩ : ∃ d, c = d + 2 := ⟨c - 2, by omega⟩
            clear HC1 HC2 HIH HD HD1 hc2
            go_wp2_with fail
            go_quiet (first | (go_at_call 126; exact HC.out _))
            go_wp2
            go_roundw
            case rel => exact ⟨s + 1, _, _, by omega, by go_num, rfl, hHV, rfl⟩
            case measure => simp [intOf]; omega
          · obtain rfl : c = 1 := by omega
            have HC := Lib.hid (HC1.out rfl)
            clear HC1 HC2 HIH HD HD1 hc2
            go_wp2_with fail
            go_quiet (first | (go_at_call 126; exact HC.out _))
            go_wp2
            go_roundw
            case rel => exact ⟨s + 1, _, _, by omega, by go_num, rfl, hHV, rfl⟩
            case measure => simp [intOf]; omega
        · have HV' : Hid (v = mxTo t ts x (s + 1)) := Lib.hid (by rw [mxTo_no t ts hz]; exact HV.out)
          have hne : ¬ ((s &&& x : Nat) : Int) = (s : Int) := by omega
          have hsx : (s : Int) ≤ (x : Int) := by omega
          clear hz
          go_wp2
          go_roundw
          case rel => exact ⟨s + 1, _, v, by omega, by go_num, rfl, HV', rfl⟩
          case measure => simp [intOf]; omega
      · obtain rfl : s = x + 1 := by omega
        have HE : Hid (v = sv (t :: ts) x) := Lib.hid (by rw [HV.out]; exact HALL.out)
        have hsx : ¬ ((x + 1 : Nat) : Int) ≤ (x : Int) := by omega
        go_wp2
        go_ret
        exact ⟨by rw [HE.out]; rfl, _, rfl⟩

end Go.Proofs.Ytpildecpabeanaa

/-
  The program: the contract of slices.Clone at ints.
-/
namespace Go.Proofs.Ytpildecpabeanaa
open Go.RowKit

theorem Clone_any (b off c : Nat) (xs : List Int) (w : World) (h : Rd w (some ⟨b, off, none⟩) c xs) (hl : xs.length ≤ 1099511627776) :
    Calls Try.prog 67 #[.slice (some ⟨b, off, none⟩) xs.length c] w (OutIs w xs) := by
  have hb0 := (Below.refl w.heap.size w).alloc (Nat.le_refl _) (.cells #[] 3)
  have h1 := h.below hb0
  have qT : ∀ (w : World) (a : Option Addr) (n c n' c' : Nat), (binOp .eql 23 (.slice a n c) (.slice none n' c')).run Try.prog w = .ok (.bool a.isNone) w := fun w a n c n' c' => Lib.run_eql_slice_nil w _ _ a n c n' c' Try.underlying23
  go_enter Try.func67, Try.ntmps67
  go_wp2_with (at_builtin; refine wpList_clone rfl _ _ rfl w.heap.size w.heap.size rfl (own_empty w) _ _ xs rfl h1 hl hb0.size ?_; intro g c1 w1 ho hb)
  go_ret
  exact ⟨g, c1, rfl, ho, hb0.trans hb⟩


end Go.Proofs.Ytpildecpabeanaa

/-
  Lists of numbers one after the other, as the last place counts fastest: what comes next, how many are to come, all of them.
-/
namespace Go.Proofs.Ytpildecpabeanaa
open Go.RowKit

/-- The bids that follow, the least digit first; none behind the last. -/
def nextR : List Int → Int → Option (List Int)
  | [], _ => none
  | x :: xs, top => if x < top then some ((x + 1) :: xs) else (nextR xs top).map (0 :: ·)
def nextF (xs : List Int) (top : Int) : Option (List Int) := (nextR xs.reverse top).map List.reverse

theorem nextF_nil (top : Int) : nextF [] top = none := rfl
theorem nextF_snoc (xs : List Int) (x top : Int) : nextF (xs ++ [x]) top = if x < top then some (xs ++ [x + 1]) else (nextF xs top).map (· ++ [0]) := by
  unfold nextF
  rw [List.reverse_append]
  simp only [List.reverse_cons, List.reverse_nil, List.nil_append, List.singleton_append, nextR]
  split
  · simp
  · cases nextR xs.reverse top <;> simp

/-- How many are still to come. -/
def leftR : List Int → Int → Nat
  | [], _ => 0
  | x :: xs, top => (top - x).toNat + (top.toNat + 1) * leftR xs top
theorem leftR_lt : ∀ (xs ys : List Int) (top : Int), 0 ≤ top → (∀ x ∈ xs, 0 ≤ x ∧ x ≤ top) → nextR xs top = some ys → leftR ys top < leftR xs top ∧ (∀ x ∈ ys, 0 ≤ x ∧ x ≤ top) ∧ ys.length = xs.length
  | [], ys, top, _, _, h => by simp [nextR] at h
  | x :: xs, ys, top, h0, hx, h => by
    rw [nextR] at h
    have hxx := hx x (by simp)
    split at h
    · have h := Option.some.inj h
      subst h
      refine ⟨?_, ?_, by simp⟩
      · simp only [leftR]; omega
      · intro z hz
        rcases List.mem_cons.1 hz with h | h
        · subst h; omega
        · exact hx z (by simp [h])
    · cases hn : nextR xs top with
      | none => rw [hn] at h; simp at h
      | some zs =>
        rw [hn] at h
        have h : 0 :: zs = ys := by simpa using h
        subst h
        obtain ⟨h1, h2, h3⟩ := leftR_lt xs zs top h0 (fun z hz => hx z (by simp [hz])) hn
        refine ⟨?_, ?_, by simp [h3]⟩
        · simp only [leftR]
          have hxt : (top - x).toNat = 0 := by omega
          have h4 : (top - 0).toNat = top.toNat := by omega
          have h5 : leftR xs top = leftR zs top + 1 + (leftR xs top - leftR zs top - 1) := by omega
          rw [hxt, h4, h5, Nat.mul_add, Nat.mul_add]
          omega
        · intro z hz
          rcases List.mem_cons.1 hz with h | h
          · subst h; omega
          · exact h2 z h

def leftF (xs : List Int) (top : Int) : Nat := leftR xs.reverse top
theorem leftF_lt {xs ys : List Int} {top : Int} (h0 : 0 ≤ top) (hx : ∀ x ∈ xs, 0 ≤ x ∧ x ≤ top) (h : nextF xs top = some ys) : leftF ys top < leftF xs top ∧ (∀ x ∈ ys, 0 ≤ x ∧ x ≤ top) ∧ ys.length = xs.length := by
  unfold nextF at h
  cases hn : nextR xs.reverse top with
  | none => rw [hn] at h; simp at h
  | some zs =>
    rw [hn] at h
    have h : zs.reverse = ys := by simpa using h
    subst h
    obtain ⟨h1, h2, h3⟩ := leftR_lt xs.reverse zs top h0 (fun z hz => hx z (by simpa using hz)) hn
    exact ⟨by unfold leftF; rw [List.reverse_reverse]; exact h1, fun z hz => h2 z (by simpa using hz), by rw [List.length_reverse, h3, List.length_reverse]⟩

/-- All bids from xs on, at most n of them. -/
def runF (top : Int) : Nat → List Int → List (List Int)
  | 0, _ => []
  | n + 1, xs => xs :: (match nextF xs top with
    | some ys => runF top n ys
    | none => [])
/-- All bids from xs on. -/
def allF (top : Int) (xs : List Int) : List (List Int) := runF top (leftF xs top + 1) xs

theorem runF_more (top : Int) (h0 : 0 ≤ top) : ∀ (n m : Nat) (xs : List Int), (∀ x ∈ xs, 0 ≤ x ∧ x ≤ top) → leftF xs top < n → leftF xs top < m → runF top n xs = runF top m xs
  | 0, m, xs, _, h, _ => by omega
  | n + 1, 0, xs, _, _, h => by omega
  | n + 1, m + 1, xs, hx, h1, h2 => by
    rw [runF, runF]
    cases hn : nextF xs top with
    | none => rfl
    | some ys =>
      obtain ⟨h3, h4, _⟩ := leftF_lt h0 hx hn
      simp only
      rw [runF_more top h0 n m ys h4 (by omega) (by omega)]

theorem allF_next {xs ys : List Int} {top : Int} (h0 : 0 ≤ top) (hx : ∀ x ∈ xs, 0 ≤ x ∧ x ≤ top) (h : nextF xs top = some ys) : allF top xs = xs :: allF top ys := by
  obtain ⟨h3, h4, _⟩ := leftF_lt h0 hx h
  unfold allF
  rw [runF, h]
  simp only
  rw [runF_more top h0 (leftF xs top) (leftF ys top + 1) ys h4 h3 (by omega)]
theorem allF_last {xs : List Int} {top : Int} (h : nextF xs top = none) : allF top xs = [xs] := by unfold allF; rw [runF, h]

/-- The numbers that a slice value reads as. -/
def readInts (w : World) : Value → List Int
  | .slice (some ⟨b, off, _⟩) len _ => (List.range len).map (fun k => match w.cell? ⟨b, off + k, none⟩ with
    | some (.int _ x) => x
    | _ => 0)
  | _ => []
theorem readInts_own {w : World} {B g c : Nat} {zs : List Int} (h : Own w B (some ⟨g, 0, none⟩) c zs) : readInts w (.slice (some ⟨g, 0, none⟩) zs.length c) = zs := by
  apply List.ext_getElem
  · simp [readInts]
  · intro i h1 h2
    have := h.cell (i := i) (List.getElem?_eq_getElem h2)
    simp [readInts, this]
/-- How many rounds are still to come. -/
def roundsLeft (top : Int) (w : World) (v : Value) : Nat := if readInts w v = [] then 0 else leftF (readInts w v) top + 1
theorem roundsLeft_own {w : World} {B g c : Nat} {zs : List Int} {top : Int} (h : Own w B (some ⟨g, 0, none⟩) c zs) (h1 : 1 ≤ zs.length) : roundsLeft top w (.slice (some ⟨g, 0, none⟩) zs.length c) = leftF zs top + 1 := by
  unfold roundsLeft
  rw [readInts_own h, if_neg (by intro e; rw [e] at h1; simp at h1)]
theorem roundsLeft_nil (top : Int) (w : World) : roundsLeft top w (.slice none 0 0) = 0 := by simp [roundsLeft, readInts]

/-- Bids that may come. -/
def Fit (top n : Nat) (ys : List Int) : Prop := ys.length = n ∧ ∀ x ∈ ys, 0 ≤ x ∧ x ≤ (top : Int)
theorem Fit.zero (top n : Nat) : Fit top n (List.replicate n 0) := ⟨by simp, fun x hx => by rw [List.eq_of_mem_replicate hx]; omega⟩
theorem Fit.next {top n : Nat} {ys zs : List Int} (h : Fit top n ys) (hn : nextF ys top = some zs) : Fit top n zs ∧ leftF zs top < leftF ys top := by
  obtain ⟨h1, h2, h3⟩ := leftF_lt (by omega) h.2 hn
  exact ⟨⟨by rw [h3]; exact h.1, h2⟩, h1⟩

end Go.Proofs.Ytpildecpabeanaa
