/-
  Chapter 7, plain: loads, prices that clear, and what things take when they are missing.
-/
import Derived.Test.YtfjncipekjnbjaaJb
import Derived.Test.YtfjncipekjnbjaaJr
import Derived.Test.YtfjncipekjnbjaaGM
import Derived.Test.YtfjncipekjnbjaaGU
import Derived.Test.YtfjncipekjnbjaaRw
import Derived.Test.YtfjncipekjnbjaaWj
import Derived.Test.YtfjncipekjnbjaaWm
import Derived.Deep.RegionLaw
import Derived.Test.YtfjncipekjnbjaaGZ
import Derived.Test.YtfjncipekjnbjaaJd
import Derived.Test.YtfjncipekjnbjaaWo
import Derived.Test.YtfjncipekjnbjaaJe
import Derived.Test.YtfjncipekjnbjaaGA
import Derived.Deep.RegionWith
import Derived.Test.YtfjncipekjnbjaaJc
import Derived.Test.YtfjncipekjnbjaaJm
import Derived.Test.YtfjncipekjnbjaaJl
import Derived.Test.YtfjncipekjnbjaaNe
import Derived.Test.YtfjncipekjnbjaaGH
import Derived.Test.YtfjncipekjnbjaaGK
namespace Go.Proofs.Ytfjncipekjnbjaa

/-- The sum of all surpluses. -/
def suS : List (List Int) → List Int → Int
  | [], _ => 0
  | t :: ts, p => su t p + suS ts p
/-- The load. -/
def lo (ts : List (List Int)) (p : List Int) : Int := pr p 7 + suS ts p
theorem suS_snoc (ts : List (List Int)) (t p : List Int) : suS (ts ++ [t]) p = suS ts p + su t p := by
  induction ts with
  | nil => simp [suS]
  | cons u ts ih => simp only [List.cons_append, suS, ih]; omega
theorem suS_step {ts : List (List Int)} {k : Nat} {t : List Int} (p : List Int) (h : ts[k]? = some t) : suS (ts.take (k + 1)) p = suS (ts.take k) p + su t p := by
  rw [List.take_add_one, h, ← suS_snoc]; rfl
theorem suS_bd {ts : List (List Int)} {p : List Int} (h : ∀ t ∈ ts, VT t) (hp : VP p) : 0 ≤ suS ts p ∧ suS ts p ≤ 30 * ts.length := by
  induction ts with
  | nil => simp [suS]
  | cons t ts ih =>
    have h1 := ih (fun u hu => h u (by simp [hu]))
    have h2 := suTo_bd (h t (by simp)) hp (k := 8) (Nat.le_refl _)
    have h3 : su t p = suTo t p 8 := rfl
    simp only [suS, List.length_cons]
    omega
theorem suS_take_bd {ts : List (List Int)} {p : List Int} (h : ∀ t ∈ ts, VT t) (hp : VP p) (k : Nat) : 0 ≤ suS (ts.take k) p ∧ suS (ts.take k) p ≤ 30 * ts.length := by
  have h1 := suS_bd (ts := ts.take k) (fun t ht => h t (List.mem_of_mem_take ht)) hp
  have h2 : (ts.take k).length ≤ ts.length := by rw [List.length_take]; omega
  omega

/-- Prices of a set and of the rest. -/
theorem pr_sub {p : List Int} {X s : Nat} (hX : X < 8) (hs : s ∈ subs X) : pr p s + pr p (X - s) = pr p X := by
  have hs8 := subs_lt hs
  have ha := subs_and hs
  obtain ⟨v0, v1, v2, v3, v4, v5, v6, v7⟩ := pr_vals p
  rcases nat8 hX with rfl | rfl | rfl | rfl | rfl | rfl | rfl | rfl <;> rcases nat8 hs8 with rfl | rfl | rfl | rfl | rfl | rfl | rfl | rfl <;>
    first
    | (exfalso; revert ha; decide)
    | (simp only [Nat.sub_self, Nat.sub_zero, Nat.reduceSub]; omega)
/-- What is had is no more than what is left, and the prices. -/
theorem got_load {p : List Int} {ts : List (List Int)} (hp : VP p) : ∀ {X : Nat} {v : Int}, X < 8 → Got ts X v → v ≤ suS ts p + pr p X := by
  induction ts with
  | nil => intro X v hX h; simp [Got] at h; simp [suS, h]; exact (hp.bd hX).1
  | cons t ts ih =>
    rintro X v hX ⟨s, hs, u, hu, rfl⟩
    have h1 := ih (sub_lt hX hs) hu
    have h2 := pr_sub (p := p) hX hs
    have h3 := su_le (t := t) (p := p) (subs_lt hs)
    unfold lf at h3
    simp only [suS]
    omega
theorem sv_load {p : List Int} {ts : List (List Int)} (hz : ∀ t ∈ ts, T t 0 = 0) (hp : VP p) {X : Nat} (hX : X < 8) : sv ts X ≤ suS ts p + pr p X := got_load hp hX (got_sv hz X)
/-- Loads are at least what all is worth. -/
theorem lo_ge {p : List Int} {ts : List (List Int)} (hz : ∀ t ∈ ts, T t 0 = 0) (hp : VP p) : sv ts 7 ≤ lo ts p := by
  have := sv_load hz hp (X := 7) (by omega)
  unfold lo; omega

/-- All is sold out of X, each one what is best. -/
def Clr : List (List Int) → List Int → Nat → Prop
  | [], p, X => pr p X = 0
  | t :: ts, p, X => ∃ s, s ∈ subs X ∧ lf t p s = su t p ∧ Clr ts p (X - s)
theorem clr_iff {p : List Int} {ts : List (List Int)} (hz : ∀ t ∈ ts, T t 0 = 0) (hp : VP p) : ∀ {X : Nat}, X < 8 → (Clr ts p X ↔ sv ts X = suS ts p + pr p X) := by
  have key : ∀ (ts : List (List Int)) {X : Nat}, X < 8 → (Clr ts p X ↔ Got ts X (suS ts p + pr p X)) := by
    intro ts
    induction ts with
    | nil => intro X hX; simp only [Clr, Got, suS]; omega
    | cons t ts ih =>
      intro X hX
      constructor
      · rintro ⟨s, hs, h1, h2⟩
        have h3 := pr_sub (p := p) hX hs
        unfold lf at h1
        exact ⟨s, hs, _, (ih (sub_lt hX hs)).1 h2, by simp only [suS]; omega⟩
      · rintro ⟨s, hs, u, hu, he⟩
        have h3 := pr_sub (p := p) hX hs
        have h4 := su_le (t := t) (p := p) (subs_lt hs)
        have h5 := got_load hp (sub_lt hX hs) hu
        simp only [suS] at he
        unfold lf at h4
        have e1 : lf t p s = su t p := by unfold lf; omega
        have e2 : u = suS ts p + pr p (X - s) := by omega
        exact ⟨s, hs, e1, (ih (sub_lt hX hs)).2 (e2 ▸ hu)⟩
  intro X hX
  rw [key ts hX]
  constructor
  · intro h
    exact Int.le_antisymm (sv_load hz hp hX) (got_le h)
  · intro h
    rw [← h]
    exact got_sv hz X
/-- Prices that clear are least loads. -/
theorem clr_load {p : List Int} {ts : List (List Int)} (hz : ∀ t ∈ ts, T t 0 = 0) (hp : VP p) : Clr ts p 7 ↔ lo ts p = sv ts 7 := by
  rw [clr_iff hz hp (by omega)]
  unfold lo
  omega

/-- How much less all is worth without thing j. -/
def mpF (ts : List (List Int)) (j : Nat) : Int := sv ts 7 - sv ts (7 - 2 ^ j)
theorem pow_sub7 {j : Nat} (hj : j < 3) : 7 - 2 ^ j ∈ subs 7 ∧ 2 ^ j ≤ 4 ∧ 7 - 2 ^ j < 8 := by
  rcases nat3 hj with rfl | rfl | rfl <;> decide
theorem mp_nn {ts : List (List Int)} (hz : ∀ t ∈ ts, T t 0 = 0) {j : Nat} (hj : j < 3) : 0 ≤ mpF ts j := by
  have := sv_more hz (X := 7 - 2 ^ j) (Y := 7) (by omega) (pow_sub7 hj).1
  unfold mpF; omega
theorem mp_bd {ts : List (List Int)} (h : ∀ t ∈ ts, VT t) {j : Nat} (hj : j < 3) : 0 ≤ mpF ts j ∧ mpF ts j ≤ 30 * ts.length := by
  have h1 := mp_nn (fun t ht => (h t ht).2.1) hj
  have h2 := sv_bd h 7 (by omega)
  have h3 := sv_nonneg ts (7 - 2 ^ j)
  unfold mpF at h1 ⊢; omega
/-- The greatest worth of thing j alone. -/
def oneF : List (List Int) → Nat → Int
  | [], _ => 0
  | t :: ts, j => max (T t (2 ^ j)) (oneF ts j)
theorem sv_zero {ts : List (List Int)} (hz : ∀ t ∈ ts, T t 0 = 0) : sv ts 0 = 0 := by
  have h := got_sv hz 0
  generalize sv ts 0 = v at h
  induction ts generalizing v with
  | nil => exact h
  | cons t ts ih =>
    obtain ⟨s, hs, u, hu, rfl⟩ := h
    have e : s = 0 := by have := subs_and hs; simp at this; exact this.symm
    subst e
    rw [ih (fun u hu => hz u (by simp [hu])) u hu, hz t (by simp)]
    rfl
theorem sv_single {ts : List (List Int)} (hz : ∀ t ∈ ts, T t 0 = 0) {j : Nat} (hj : j < 3) : sv ts (2 ^ j) ≤ oneF ts j := by
  induction ts with
  | nil => simp [sv, oneF]
  | cons t ts ih =>
    have hz' : ∀ u ∈ ts, T u 0 = 0 := fun u hu => hz u (by simp [hu])
    have h1 := ih hz'
    have h2 := sv_zero hz'
    have h3 := sv_nonneg ts (2 ^ j)
    have h4 := hz t (by simp)
    have e : subs (2 ^ j) = [0, 2 ^ j] := by rcases nat3 hj with rfl | rfl | rfl <;> decide
    simp only [oneF]
    refine mx_le (by omega) (fun s hs => ?_)
    rw [e] at hs
    simp only [List.mem_cons, List.not_mem_nil, or_false] at hs
    rcases hs with rfl | rfl
    · rw [h4, Nat.sub_zero]; omega
    · rw [Nat.sub_self, h2]; omega
/-- Most prices are no more than what things are worth alone to someone, where things may be moved. -/
theorem mp_one {ts : List (List Int)} (h : ∀ t ∈ ts, VT t ∧ Mo (T t)) {j : Nat} (hj : j < 3) : mpF ts j ≤ oneF ts j := by
  have hz : ∀ t ∈ ts, T t 0 = 0 := fun t ht => (h t ht).1.2.1
  have A := sv_mo h
  have h1 := sv_single hz hj
  have a1 := A.m71
  have a2 := A.m72
  have a4 := A.m74
  unfold mpF
  rcases nat3 hj with rfl | rfl | rfl
  · simp only [Nat.reducePow, Nat.reduceSub] at h1 ⊢; omega
  · simp only [Nat.reducePow, Nat.reduceSub] at h1 ⊢; omega
  · simp only [Nat.reducePow, Nat.reduceSub] at h1 ⊢; omega

end Go.Proofs.Ytfjncipekjnbjaa

/-
  Chapter 7: lists of three prices that are slices of arrays: marked, held, kept; rows marked, what else is there kept.
-/
namespace Go.Proofs.Ytfjncipekjnbjaa
open Go.RowKit

theorem own_keepb {w w' : World} {B : Nat} {A : Option Addr} {c : Nat} {zs : List Int} (h : Own w B A c zs) (hb : ∀ g, ofA A = some g → w'.heap[g]? = w.heap[g]?) : Own w' B A c zs := by
  unfold Own at h ⊢
  refine ⟨h.1, ?_⟩
  rcases h.2 with h2 | ⟨g, cap, cur, hv, hB, hh, r⟩
  · exact .inl h2
  · refine .inr ⟨g, cap, cur, hv, hB, (hb g ?_).trans hh, r⟩
    injection hv with hA _ _
    rw [hA]
    rfl
/-- A slice of the call's own, or an array of prices of its own that is sliced. -/
def Own3 (w : World) (B : Nat) (A : Option Addr) (c : Nat) (zs : List Int) : Prop := Own w B A c zs ∨ ∃ M, A = some ⟨M, 0, none⟩ ∧ c = 3 ∧ zs.length = 3 ∧ B ≤ M ∧ Pr3 w M zs
theorem pr3_rd {w : World} {M : Nat} {zs : List Int} (h : Pr3 w M zs) (hl : zs.length = 3) (c : Nat) : Rd w (some ⟨M, 0, none⟩) c zs := .inr ⟨M, 0, rfl, fun k hk => by
  rw [Nat.zero_add, h.cell (by omega)]
  simp [T]⟩
theorem Own3.rd {w : World} {B : Nat} {A : Option Addr} {c : Nat} {zs : List Int} (h : Own3 w B A c zs) : Rd w A c zs := by
  rcases h with h | ⟨M, rfl, rfl, hl, _, h⟩
  · exact h.rd
  · exact pr3_rd h hl 3
theorem Own3.below {w w' : World} {B : Nat} {A : Option Addr} {c : Nat} {zs : List Int} (h : Own3 w B A c zs) (hb : Below w.heap.size w w') : Own3 w' B A c zs := by
  rcases h with h | ⟨M, rfl, rfl, hl, hB, h⟩
  · exact .inl (h.below hb)
  · exact .inr ⟨M, rfl, rfl, hl, hB, h.keep (hb.block _ h.lt)⟩
theorem Own3.drewN {w : World} {B : Nat} {A : Option Addr} {c : Nat} {zs : List Int} (h : Own3 w B A c zs) (n : Nat) : Own3 (w.drewN n) B A c zs := h
theorem Own3.blk {w : World} {B k : Nat} {A : Option Addr} {c : Nat} {xs : List Int} (h : Own3 w B A c xs) (hk : ofA A = some k) : B ≤ k ∧ k < w.heap.size := by
  rcases h with h | ⟨M, rfl, rfl, _, hM, h⟩
  · exact own_blk h hk
  · obtain rfl : M = k := by simpa [ofA] using hk
    exact ⟨hM, h.lt⟩
theorem Own3.keepb {w w' : World} {B : Nat} {A : Option Addr} {c : Nat} {zs : List Int} (h : Own3 w B A c zs) (hb : ∀ g, ofA A = some g → w'.heap[g]? = w.heap[g]?) : Own3 w' B A c zs := by
  rcases h with h | ⟨M, rfl, rfl, hl, hB, h⟩
  · exact .inl (own_keepb h hb)
  · exact .inr ⟨M, rfl, rfl, hl, hB, h.keep (hb M rfl)⟩
theorem Own3.grownBelow {w w' wa : World} {B B0 : Nat} {A0 : Option Addr} {c0 : Nat} {xs : List Int} (hb : Below B0 wa w) (ho : Own3 w B A0 c0 xs) (hs : B0 ≤ B) (hw : B0 ≤ w.heap.size) (hg : w.grownBy w' (ofA A0)) : Below B0 wa w' :=
  hb.grown hg hw (fun _ hk => Nat.le_trans hs (ho.blk hk).1)
theorem apart3 {wa wb : World} {B1 B2 : Nat} {A1 A2 : Option Addr} {c1 c2 : Nat} {xs ys : List Int} (h1 : Own wa B1 A1 c1 xs) (h2 : Own3 wb B2 A2 c2 ys) (hlt : wa.heap.size ≤ B2) : ofA A1 = none ∨ ofA A1 ≠ ofA A2 := by
  rcases hA : ofA A1 with _ | k
  · exact .inl rfl
  · refine .inr (fun hh => ?_)
    have l1 := (own_blk h1 hA).2
    have l2 := (h2.blk hh.symm).1
    omega
def Own3Is (w : World) (zs : List Int) (e : Ending) (w' : World) : Prop := ∃ A c, e = .returned (.slice A zs.length c) ∧ Own3 w' w.heap.size A c zs ∧ Below w.heap.size w w'

end Go.Proofs.Ytfjncipekjnbjaa

/-
  Chapter 7: what things take when they are missing, by the model and by the program.
-/
namespace Go.Proofs.Ytfjncipekjnbjaa
open Go.RowKit

open Classical in
/-- What MostPrices tells. -/
noncomputable def mpL (ts : List (List Int)) : List Int := if VTs ts then vls (mpF ts) 3 else []
theorem mpL_len (ts : List (List Int)) : (mpL ts).length ≤ 3 := by
  unfold mpL; split
  · rw [vls_len]; omega
  · simp
theorem mpL_no {ts : List (List Int)} (h : vtsB ts = false) : mpL ts = [] := if_neg (fun hv => by rw [vtsB_true hv] at h; cases h)
theorem mpL_yes {ts : List (List Int)} (h : VTs ts) : mpL ts = vls (mpF ts) 3 := if_pos h

theorem Sall7_any (w : World) : Calls Try.prog 113 #[] w fun e w' => e = .returned (.int .i64 7) ∧ w = w' := by
  have HP : Hid (∀ w1, Calls Try.prog 88 #[.int .i64 3] w1 fun e w' => e = .returned (.int .i64 8) ∧ w1 = w') := Lib.hid (fun w1 => Spower_any 3 (by omega) w1)
  go_enter Try.func113, Try.ntmps113
  go_wp2_with (go_at_call 88; refine (HP.out _).mono ?_; rintro e w1 ⟨rfl, rfl⟩)
  go_ret
  exact ⟨rfl, rfl⟩

set_option maxRecDepth 100000 in
set_option maxHeartbeats 1600000 in
theorem SMostPrices_any (A : Option Addr) (c : Nat) (ts : List (List Int)) (w : World) (h : RdR w A c ts) (hl : ts.length ≤ 1099511627776) (hl2 : ∀ r ∈ ts, r.length ≤ 1099511627776) :
    Calls Try.prog 58 #[.slice A ts.length c] w (OwnIs w (mpL ts)) := by
  have HC := Lib.hid (SvalidTables_any A c ts w h hl hl2)
  rcases hb : vtsB ts with _ | _
  · rw [hb] at HC
    rw [mpL_no hb]
    clear hb hl2 hl h
    go_enter Try.func58, Try.ntmps58
    go_wp2_with fail
    refine HC.out.mono ?_
    rintro e w1 ⟨rfl, n, rfl⟩
    go_wp2
    go_ret
    exact ⟨none, 0, rfl, own_none _ _, below_drewN' (Below.refl _ _) _⟩
  have hv := vtsB_iff.1 hb
  rw [hb] at HC
  rw [mpL_yes hv]
  have h4 : ts.length ≤ 4 := hv.1.2
  obtain ⟨n, hn⟩ : ∃ n, n = ts.length := ⟨_, rfl⟩
  obtain ⟨f, hf⟩ : ∃ f, f = mpF ts := ⟨_, rfl⟩
  have HF := Lib.hid hf
  obtain ⟨V, hV⟩ : ∃ V, V = sv ts 7 := ⟨_, rfl⟩
  have hv0 := sv_nonneg ts 7
  have hv1 := sv_bd hv.2 7 (by omega)
  have HBD := Lib.hid (fun x (hx : x < 8) => And.intro (sv_nonneg ts x) (sv_bd hv.2 x hx))
  have HSV := Lib.hid (fun (x : Nat) (hx : x < 8) (W : World) (hW : Below w.heap.size w W) => SsplitValue_any ts A c x W (h.below hW) hv.2 h4 hx)
  have HS7 := Lib.hid (HSV.out 7 (by omega))
  rw [← hV] at hv0 hv1 HS7
  rw [← hn] at HC h4 hv1 HSV HS7 HBD
  rw [← hf, ← hn]
  have HVE := Lib.hid hV
  clear hv hl2 hl h hn hf hV hb
  go_enter Try.func58, Try.ntmps58
  go_wp2_with fail
  refine HC.out.mono ?_
  rintro e w1 ⟨rfl, m, rfl⟩
  have B1 : Below w.heap.size w (w.drewN m) := below_drewN' (Below.refl _ _) m
  have B2 := B1.alloc B1.size (.cells #[] 3)
  have HO2 : Hid (Own ((w.drewN m).alloc (.cells #[] 3)) w.heap.size (some ⟨w.heap.size, 0, none⟩) 0 (vls f 0)) := Lib.hid (own_new_ints (w.drewN m))
  go_wp2
  go_loopw [3, 4] (fun o i wr => ∃ (j g2 c2 : Nat), j ≤ 3 ∧ i = .int .i64 j ∧ o = .slice (some ⟨g2, 0, none⟩) j c2 ∧ Hid (Own wr w.heap.size (some ⟨g2, 0, none⟩) c2 (vls f j)) ∧ Below w.heap.size w wr) (fun _ i _ => 3 - (intOf i).toNat)
  case atStart => exact ⟨0, w.heap.size, 0, Nat.zero_le _, rfl, rfl, HO2, B2⟩
  case round =>
    obtain ⟨j, g2, c2, hj, rfl, rfl, HO, hb⟩ := hrel
    by_cases hlt : j < 3
    · obtain ⟨p1, p2, p3⟩ := pow_sub7 hlt
      have HPW := Lib.hid (fun w1 => Spower_any j (by omega) w1)
      obtain ⟨M, hM⟩ : ∃ M, M = sv ts (7 - 2 ^ j) := ⟨_, rfl⟩
      have hmb := HBD.out _ p3
      have HSP := Lib.hid (HSV.out _ p3)
      rw [← hM] at hmb HSP
      have HFE : Hid (V - M = f j) := Lib.hid (by rw [HF.out]; unfold mpF; rw [← HVE.out, hM])
      obtain ⟨P, hP⟩ : ∃ P, P = 2 ^ j := ⟨_, rfl⟩
      rw [← hP] at p2 p3 HPW HSP
      have e0 : IntKind.i64.wrap (7 - (P : Int)) = ((7 - P : Nat) : Int) := by rw [IntWalk.i64_in _ (by omega)]; omega
      have e1 : IntKind.i64.wrap (V - M) = V - M := IntWalk.i64_in _ (by omega)
      have hj3 : (j : Int) < 3 := by omega
      have hj1 : j + 1 ≤ 3 := hlt
      have hn63 : j + 1 ≤ 1099511627776 := by omega
      clear hM hP p1 hlt
      go_wp2_with fail
      refine (Sall7_any wr).mono ?_
      rintro e w3 ⟨rfl, rfl⟩
      go_wp2_with fail
      refine (HS7.out wr hb).mono ?_
      rintro e w4 ⟨rfl, n4, rfl⟩
      have B4 := below_drewN' hb n4
      have HO4 := Lib.hid (HO.out.drewN n4)
      go_wp2_with fail
      refine (Sall7_any _).mono ?_
      rintro e w5 ⟨rfl, rfl⟩
      go_wp2_with fail
      refine (HPW.out _).mono ?_
      rintro e w6 ⟨rfl, rfl⟩
      go_wp2_with fail
      refine (HSP.out _ B4).mono ?_
      rintro e w7 ⟨rfl, m7, rfl⟩
      have B7 : Below w.heap.size w (wr.drewN (n4 + m7)) := below_drewN' hb (n4 + m7)
      have hal := (Below.refl (wr.drewN (n4 + m7)).heap.size (wr.drewN (n4 + m7))).alloc (Nat.le_refl _) (.cells #[.int .i64 (V - M)] 3)
      have HO8 := Lib.hid ((HO.out.drewN (n4 + m7)).below hal)
      have B8 := B7.trans (hal.mono B7.size)
      have HX := Lib.hid (ints_one (wr.drewN (n4 + m7)) (V - M))
      have hS8 := B8.size
      clear hal HO HO4 B4
      go_wp2_with (at_builtin; refine wpList_append_any rfl _ _ 24 Try.underlying24 rfl w.heap.size (some ⟨g2, 0, none⟩) c2 (vls f j) j (vls_len _ _) rfl HO8.out (some ⟨wr.heap.size, 0, none⟩) 1 [V - M] 1 rfl rfl HX.out hn63 hS8 ?_; intro A9 c9 w9 o9 g9')
      obtain ⟨g9, rfl⟩ := own_some o9 (by simp)
      have B9 := Own.grownBelow0 B8 HO8.out B8.size g9'
      have HO9 : Hid (Own w9 w.heap.size (some ⟨g9, 0, none⟩) c9 (vls f (j + 1))) := Lib.hid (by rw [vls_more, ← HFE.out]; exact o9)
      clear o9 g9'
      go_wp2
      go_roundw
      case rel => exact ⟨j + 1, g9, c9, by omega, by go_num, rfl, HO9, B9⟩
      case measure => simp [intOf]; omega
    · obtain rfl : j = 3 := by omega
      have HOE := Lib.hid HO.out
      go_wp2
      go_ret
      exact ⟨some ⟨g2, 0, none⟩, c2, by rw [vls_len]; rfl, HOE.out, hb⟩

/-- The prices of the first k things, the others nought. -/
def mpS (f : Nat → Int) (k : Nat) : List Int := (List.range 3).map (fun i => if i < k then f i else 0)
theorem mpS_len (f : Nat → Int) (k : Nat) : (mpS f k).length = 3 := by simp [mpS]
theorem mpS_at (f : Nat → Int) (k : Nat) {i : Nat} (hi : i < 3) : T (mpS f k) i = if i < k then f i else 0 := by
  apply T_of
  simp [mpS, hi]
theorem mpS_zero (f : Nat → Int) : mpS f 0 = [0, 0, 0] := rfl
theorem mpS_step (f : Nat → Int) {k : Nat} (hk : k < 3) : mpS f (k + 1) = (mpS f k).set k (f k) := ext3 (mpS_len _ _) (by rw [List.length_set]; exact mpS_len _ _) (fun x hx => by
  rw [T_set (by rw [mpS_len]; exact hk), mpS_at _ _ hx, mpS_at _ _ hx]
  by_cases h1 : k = x
  · subst h1; rw [if_pos (by omega), if_pos rfl]
  · rw [if_neg h1]
    by_cases h2 : x < k
    · rw [if_pos (by omega), if_pos h2]
    · rw [if_neg (by omega), if_neg h2])
theorem mpS_end (f : Nat → Int) : mpS f 3 = vls f 3 := by simp [mpS, vls, List.range_succ]
theorem less_bits {j : Nat} (hj : j < 3) : bits .andNot .i64 7 ((2 ^ j : Nat) : Int) = ((7 - 2 ^ j : Nat) : Int) := by
  rcases nat3 hj with rfl | rfl | rfl <;> decide

/-- Where MostPrices' world stands. -/
def MpAt (w wr : World) (W f : Nat → Int) (k : Nat) : Prop := Below w.heap.size w wr ∧ Arr wr w.heap.size (lit8 W) ∧ Pr3 wr (w.heap.size + 1) (mpS f k)
theorem MpAt.put {w wr : World} {W f : Nat → Int} {k : Nat} (h : MpAt w wr W f k) (hk : k < 3) : MpAt w (wr.setCell ⟨w.heap.size + 1, k, none⟩ (.int .i64 (f k))) W f (k + 1) :=
  ⟨h.1.setCell (by show w.heap.size ≤ w.heap.size + 1; omega) _, h.2.1.keep (Below.heap_setCell wr ⟨w.heap.size + 1, k, none⟩ _ w.heap.size (by simp)), by rw [mpS_step f hk]; exact h.2.2.set_ (mpS_len _ _) hk _⟩
theorem MpAt.drew {w wr : World} {W f : Nat → Int} {k : Nat} (h : MpAt w wr W f k) : MpAt w wr.drew W f k := ⟨h.1.drew, h.2.1.keep rfl, h.2.2.keep rfl⟩
theorem mpAt_zero (w : World) (W f : Nat → Int) : MpAt w ((w.alloc (.cells #[.int .i64 (W 0), .int .i64 (W 1), .int .i64 (W 2), .int .i64 (W 3), .int .i64 (W 4), .int .i64 (W 5), .int .i64 (W 6), .int .i64 (W 7)] 65)).alloc (.cells #[.int .i64 0, .int .i64 0, .int .i64 0] 68)) W f 0 := by
  refine ⟨((Below.refl _ w).alloc (Nat.le_refl _) _).alloc (by simp) _, (Arr.new w (lit8 W) rfl).alloc _, ?_⟩
  have := Pr3.new (w.alloc (.cells #[.int .i64 (W 0), .int .i64 (W 1), .int .i64 (W 2), .int .i64 (W 3), .int .i64 (W 4), .int .i64 (W 5), .int .i64 (W 6), .int .i64 (W 7)] 65)) [0, 0, 0]
  rw [World.size_alloc] at this
  exact this

set_option maxRecDepth 100000 in
set_option maxHeartbeats 1600000 in
theorem MostPrices_any (A : Option Addr) (c : Nat) (ts : List (List Int)) (w : World) (h : RdR w A c ts) (hl2 : ∀ r ∈ ts, r.length ≤ 1099511627776) :
    Calls Try.prog 53 #[.slice A ts.length c] w (Own3Is w (mpL ts)) := by
  have HC := Lib.hid (areTables_any A c ts w h hl2)
  rcases hb : vtsB ts with _ | _
  · rw [hb] at HC
    rw [mpL_no hb]
    clear hb hl2 h
    go_enter Try.func53, Try.ntmps53
    go_wp2_with fail
    refine HC.out.mono ?_
    rintro e w1 ⟨rfl, b1⟩
    go_wp2
    go_ret
    exact ⟨none, 0, rfl, .inl (own_none _ _), b1⟩
  have hv := vtsB_iff.1 hb
  rw [hb] at HC
  rw [mpL_yes hv]
  have h4 : ts.length ≤ 4 := hv.1.2
  have hz : ∀ t ∈ ts, T t 0 = 0 := fun t ht => (hv.2 t ht).2.1
  have HJ0 := fun w1 (h : RdR w1 A c ts) => joinedOf_any A c ts w1 h hv
  obtain ⟨W, hW⟩ : ∃ W, W = T (jnAll ts) := ⟨_, rfl⟩
  rw [← hW] at HJ0
  unfold ag8 at HJ0
  have HJ := Lib.hid HJ0
  have HWV : Hid (∀ x, x < 8 → W x = sv ts x) := Lib.hid (fun x hx => by rw [hW]; exact jnAll_at hz hx)
  have HWB : Hid (∀ x, x < 8 → 0 ≤ W x ∧ W x ≤ 120) := Lib.hid (fun x hx => by have h1 := sv_nonneg ts x; have h2 := sv_bd hv.2 x hx; rw [HWV.out x hx]; omega)
  obtain ⟨f, hf⟩ : ∃ f, f = mpF ts := ⟨_, rfl⟩
  have HF : Hid (∀ j, j < 3 → f j = W 7 - W (7 - 2 ^ j)) := Lib.hid (fun j hj => by rw [hf, HWV.out 7 (by omega), HWV.out _ (pow_sub7 hj).2.2]; rfl)
  rw [← hf]
  have HI := Lib.hid (fun (k : Nat) (hk : k < 8) w1 => idx8 W hk w1)
  clear hv hl2 hf hW hb hz HJ0 HWV
  go_enter Try.func53, Try.ntmps53
  go_wp2_with fail
  refine HC.out.mono ?_
  rintro e w1 ⟨rfl, b1⟩
  go_wp2_with fail
  refine (HJ.out _ (h.below b1)).mono ?_
  rintro e w2 ⟨rfl, b2⟩
  have B2 := below_then b1 b2
  go_wp2_with fail
  have HS0 : Hid (MpAt w2 ((w2.alloc (.cells #[.int .i64 (W 0), .int .i64 (W 1), .int .i64 (W 2), .int .i64 (W 3), .int .i64 (W 4), .int .i64 (W 5), .int .i64 (W 6), .int .i64 (W 7)] 65)).alloc (.cells #[.int .i64 0, .int .i64 0, .int .i64 0] 68)) W f 0) := Lib.hid (mpAt_zero w2 W f)
  obtain ⟨w3, hw3⟩ : ∃ w3, w3 = ((w2.alloc (.cells #[.int .i64 (W 0), .int .i64 (W 1), .int .i64 (W 2), .int .i64 (W 3), .int .i64 (W 4), .int .i64 (W 5), .int .i64 (W 6), .int .i64 (W 7)] 65)).alloc (.cells #[.int .i64 0, .int .i64 0, .int .i64 0] 68)) := ⟨_, rfl⟩
  rw [← hw3] at HS0 ⊢
  clear hw3
  go_loopw [11] (fun iv wr => ∃ k : Nat, k ≤ 3 ∧ iv = .int .i64 (k : Int) ∧ Hid (MpAt w2 wr W f k)) (fun iv _ => 3 - (intOf iv).toNat)
  case atStart => exact ⟨0, by omega, rfl, HS0⟩
  case round =>
    obtain ⟨k, hk, rfl, HS⟩ := hrel
    by_cases hlt : k < 3
    · have c7 := HS.out.2.1.cell (k := 7) (by omega)
      rw [lit8_at _ (by omega)] at c7
      have h7b := HWB.out 7 (by omega)
      have hpc := HS.out.2.2.cell hlt
      have hpf := HS.out.2.2.free k
      rcases nat3 hlt with rfl | rfl | rfl
      · have e0 : bits .andNot .i64 7 (IntKind.i64.wrap 1) = 6 := by decide
        have cx := HS.out.2.1.cell (k := 6) (by omega)
        rw [lit8_at _ (by omega)] at cx
        have hxb := HWB.out 6 (by omega)
        have hfe := HF.out 0 (by omega)
        rw [show 7 - 2 ^ 0 = 6 from rfl] at hfe
        have HP : Hid (MpAt w2 wr W f 0 → MpAt w2 (wr.setCell ⟨w2.heap.size + 1, 0, none⟩ (.int .i64 (W 7 - W 6))) W f 1) := Lib.hid (fun h => by rw [← hfe]; exact h.put (by omega))
        have HQ := Lib.hid (HP.out HS.out)
        have e1 : IntKind.i64.wrap (W 7 - W 6) = W 7 - W 6 := IntWalk.i64_in _ (by omega)
        clear hxb hfe
        have HS' := HS.out.2.2
        go_wp2_with fail
        go_region_law (fail)
        all_goals (
          go_wp2
          go_roundw
          case rel => exact ⟨1, by omega, by go_num, Lib.hid HQ.out.drew⟩
          case measure => simp [intOf])
      · have e0 : bits .andNot .i64 7 (IntKind.i64.wrap 2) = 5 := by decide
        have cx := HS.out.2.1.cell (k := 5) (by omega)
        rw [lit8_at _ (by omega)] at cx
        have hxb := HWB.out 5 (by omega)
        have hfe := HF.out 1 (by omega)
        rw [show 7 - 2 ^ 1 = 5 from rfl] at hfe
        have HP : Hid (MpAt w2 wr W f 1 → MpAt w2 (wr.setCell ⟨w2.heap.size + 1, 1, none⟩ (.int .i64 (W 7 - W 5))) W f 2) := Lib.hid (fun h => by rw [← hfe]; exact h.put (by omega))
        have HQ := Lib.hid (HP.out HS.out)
        have e1 : IntKind.i64.wrap (W 7 - W 5) = W 7 - W 5 := IntWalk.i64_in _ (by omega)
        clear hxb hfe
        have HS' := HS.out.2.2
        go_wp2_with fail
        go_region_law (fail)
        all_goals (
          go_wp2
          go_roundw
          case rel => exact ⟨2, by omega, by go_num, Lib.hid HQ.out.drew⟩
          case measure => simp [intOf])
      · have e0 : bits .andNot .i64 7 (IntKind.i64.wrap 4) = 3 := by decide
        have cx := HS.out.2.1.cell (k := 3) (by omega)
        rw [lit8_at _ (by omega)] at cx
        have hxb := HWB.out 3 (by omega)
        have hfe := HF.out 2 (by omega)
        rw [show 7 - 2 ^ 2 = 3 from rfl] at hfe
        have HP : Hid (MpAt w2 wr W f 2 → MpAt w2 (wr.setCell ⟨w2.heap.size + 1, 2, none⟩ (.int .i64 (W 7 - W 3))) W f 3) := Lib.hid (fun h => by rw [← hfe]; exact h.put (by omega))
        have HQ := Lib.hid (HP.out HS.out)
        have e1 : IntKind.i64.wrap (W 7 - W 3) = W 7 - W 3 := IntWalk.i64_in _ (by omega)
        clear hxb hfe
        have HS' := HS.out.2.2
        go_wp2_with fail
        go_region_law (fail)
        all_goals (
          go_wp2
          go_roundw
          case rel => exact ⟨3, by omega, by go_num, Lib.hid HQ.out.drew⟩
          case measure => simp [intOf])
    · obtain rfl : k = 3 := by omega
      obtain ⟨hbl, _, hp⟩ := HS.out
      rw [mpS_end] at hp
      have hlen : (vls f 3).length = 3 := vls_len _ _
      go_wp2
      go_ret
      exact ⟨some ⟨w2.heap.size + 1, 0, none⟩, 3, by rw [hlen]; rfl, .inr ⟨w2.heap.size + 1, rfl, rfl, hlen, by have := B2.size; omega, hp⟩, below_then B2 hbl⟩

theorem MostPrices_both (rows : List (List Int)) : ∃ zs : List Int, zs.length ≤ 1000 ∧ (rows.length ≤ 1099511627776 → (∀ r ∈ rows, r.length ≤ 1099511627776) →
    (∀ A c w, RdR w A c rows → Calls Try.prog 58 #[.slice A rows.length c] w (OwnIs w zs)) ∧
    (∀ A c w, RdR w A c rows → Calls Try.prog 53 #[.slice A rows.length c] w (Own3Is w zs))) :=
  ⟨mpL rows, by have := mpL_len rows; omega, fun hl hl2 => ⟨fun A c w h => SMostPrices_any A c rows w h hl hl2, fun A c w h => MostPrices_any A c rows w h hl2⟩⟩

end Go.Proofs.Ytfjncipekjnbjaa

/-
  Chapter 6, plain: more bidders pay more, and two names are no better, where things may be moved.
-/
namespace Go.Proofs.Ytfjncipekjnbjaa

/-- What is had goes to one bidder, and the rest to the others. -/
theorem got_pick {ts : List (List Int)} : ∀ (i X : Nat) (v : Int), X < 8 → i < ts.length → (Got ts X v ↔ ∃ s, s ∈ subs X ∧ ∃ u, Got (ts.eraseIdx i) (X - s) u ∧ v = T (ts.getD i []) s + u) := by
  induction ts with
  | nil => intro i X v _ h; simp at h
  | cons t ts ih =>
    intro i X v hX h
    cases i with
    | zero => simp only [List.eraseIdx_zero, List.tail_cons, List.getD_cons_zero, Got]
    | succ i =>
      simp only [List.eraseIdx_cons_succ, List.getD_cons_succ, Got]
      have hi : i < ts.length := by simpa using h
      constructor
      · rintro ⟨s, hs, u, hu, rfl⟩
        obtain ⟨r, hr, u', hu', rfl⟩ := (ih i (X - s) u (sub_lt hX hs) hi).1 hu
        obtain ⟨h1, h2, h3⟩ := sub_sub hX hs hr
        exact ⟨r, h1, T t s + u', ⟨s, h2, u', h3 ▸ hu', rfl⟩, by omega⟩
      · rintro ⟨r, hr, w, ⟨s, hs, u', hu', rfl⟩, rfl⟩
        obtain ⟨h1, h2, h3⟩ := sub_sub hX hr hs
        exact ⟨s, h1, T (ts.getD i []) r + u', (ih i (X - s) _ (sub_lt hX h1) hi).2 ⟨r, h2, u', h3 ▸ hu', rfl⟩, by omega⟩
/-- Both rests together are no less than the rest of both and all. -/
theorem mo_rests {S : Nat → Int} (A : Mo S) {r s : Nat} (hr : r ∈ subs 7) (hs : s ∈ subs (7 - r)) : S (7 - r - s) + S 7 ≤ S (7 - r) + S (7 - s) := by
  obtain ⟨z, m3, m5, m6, m71, m72, m74, n1, n2, n4, _, _, _⟩ := A
  have hr8 := subs_lt hr
  have hs8 := subs_lt hs
  have ha := subs_and hs
  rcases nat8 hr8 with rfl | rfl | rfl | rfl | rfl | rfl | rfl | rfl <;> rcases nat8 hs8 with rfl | rfl | rfl | rfl | rfl | rfl | rfl | rfl <;>
    first
    | (exfalso; revert ha; decide)
    | (simp only [Nat.sub_zero, Nat.sub_self, Nat.reduceSub]; omega)
/-- One bidder more brings less where there is another one more. -/
theorem sv_less {ts : List (List Int)} {b : List Int} (h : ∀ t ∈ ts ++ [b], VT t ∧ Mo (T t)) {i : Nat} (hi : i < ts.length) :
    sv (ts ++ [b]) 7 + sv (ts.eraseIdx i) 7 ≤ sv (ts.eraseIdx i ++ [b]) 7 + sv ts 7 := by
  have hz : ∀ t ∈ ts ++ [b], T t 0 = 0 := fun t ht => (h t ht).1.2.1
  have ho : ∀ t ∈ ts.eraseIdx i, VT t ∧ Mo (T t) := fun t ht => h t (List.mem_append.2 (.inl (mem_erase ht)))
  have A := sv_mo ho
  obtain ⟨r, hr, u, hu, e1⟩ := (got_snoc (by omega)).1 (got_sv hz 7)
  obtain ⟨s, hs, u', hu', e2⟩ := (got_pick i (7 - r) u (sub_lt (by omega) hr) hi).1 hu
  have h1 := got_le hu'
  have hsr := sub_sub (by omega) hr hs
  have h2 : sv (ts.eraseIdx i) (7 - r) + T b r ≤ sv (ts.eraseIdx i ++ [b]) 7 := got_le ((got_snoc (by omega)).2 ⟨r, hr, _, got_sv (fun t ht => (ho t ht).1.2.1) _, rfl⟩)
  have h3 : T (ts.getD i []) s + sv (ts.eraseIdx i) (7 - s) ≤ sv ts 7 := got_le ((got_pick i 7 _ (by omega) hi).2 ⟨s, hsr.1, _, got_sv (fun t ht => (ho t ht).1.2.1) _, rfl⟩)
  have h4 := mo_rests A hr hs
  omega

/-- The sum of what the others have without each of the first k. -/
def outTo (ts : List (List Int)) : Nat → Int
  | 0 => 0
  | k + 1 => outTo ts k + sv (ts.eraseIdx k) 7
theorem paid_out (ts : List (List Int)) : ∀ k, paidTo ts k = outTo ts k - (k : Int) * worthF ts (wayF ts) + hasTo ts (wayF ts) k
  | 0 => by simp [paidTo, outTo, hasTo]
  | k + 1 => by
    have := paid_out ts k
    simp only [paidTo, outTo, hasTo, pvF]
    have e : ((k + 1 : Nat) : Int) * worthF ts (wayF ts) = (k : Int) * worthF ts (wayF ts) + worthF ts (wayF ts) := by rw [Int.natCast_add, Int.add_mul]; simp
    rw [e]
    omega
theorem erase_snoc {ts : List (List Int)} {b : List Int} {i : Nat} (hi : i < ts.length) : (ts ++ [b]).eraseIdx i = ts.eraseIdx i ++ [b] := List.eraseIdx_append_of_lt_length hi _
theorem erase_last {ts : List (List Int)} {b : List Int} : (ts ++ [b]).eraseIdx ts.length = ts := by
  rw [List.eraseIdx_append_of_length_le (Nat.le_refl _)]; simp
theorem out_snoc {ts : List (List Int)} {b : List Int} : ∀ k, k ≤ ts.length → (∀ t ∈ ts ++ [b], VT t ∧ Mo (T t)) → outTo ts k + (k : Int) * sv (ts ++ [b]) 7 ≤ outTo (ts ++ [b]) k + (k : Int) * sv ts 7
  | 0, _, _ => by simp [outTo]
  | k + 1, hk, h => by
    have ih := out_snoc k (by omega) h
    have h1 := sv_less h (i := k) hk
    simp only [outTo]
    rw [erase_snoc hk]
    have e1 : ((k + 1 : Nat) : Int) * sv (ts ++ [b]) 7 = (k : Int) * sv (ts ++ [b]) 7 + sv (ts ++ [b]) 7 := by rw [Int.natCast_add, Int.add_mul]; simp
    have e2 : ((k + 1 : Nat) : Int) * sv ts 7 = (k : Int) * sv ts 7 + sv ts 7 := by rw [Int.natCast_add, Int.add_mul]; simp
    rw [e1, e2]
    omega

/-- More bidders pay more. -/
theorem paid_more {ts : List (List Int)} {b : List Int} (hn : ts.length + 1 ≤ 4) (h : ∀ t ∈ ts ++ [b], VT t ∧ Mo (T t)) : paidTo ts ts.length ≤ paidTo (ts ++ [b]) (ts ++ [b]).length := by
  have hz : ∀ t ∈ ts ++ [b], T t 0 = 0 := fun t ht => (h t ht).1.2.1
  have hz' : ∀ t ∈ ts, T t 0 = 0 := fun t ht => hz t (List.mem_append.2 (.inl ht))
  have hl : (ts ++ [b]).length = ts.length + 1 := by simp
  have w1 := wayF_worth hz' (by omega)
  have w2 := wayF_worth hz (by rw [hl]; exact hn)
  have p1 := paid_out ts ts.length
  have p2 := paid_out (ts ++ [b]) (ts ++ [b]).length
  rw [hasTo_is _ _ (Nat.le_refl _), List.take_length, w1] at p1
  rw [hasTo_is _ _ (Nat.le_refl _), List.take_length, w2] at p2
  have o := out_snoc ts.length (Nat.le_refl _) h
  have e : outTo (ts ++ [b]) (ts ++ [b]).length = outTo (ts ++ [b]) ts.length + sv ts 7 := by
    rw [hl]
    simp only [outTo]
    rw [erase_last]
  rw [e] at p2
  have e2 : (((ts ++ [b]).length : Nat) : Int) * sv (ts ++ [b]) 7 = (ts.length : Int) * sv (ts ++ [b]) 7 + sv (ts ++ [b]) 7 := by rw [hl, Int.natCast_add, Int.add_mul]; simp
  rw [e2] at p2
  rw [p1, p2]
  omega

/-- The set of a bidder is among the things that go to this and later ones. -/
theorem skn_in {x y z k i : Int} (h : k ≤ i) : skn x y z i ∈ subs (ge k x y z) := by
  unfold skn ge
  have ex : (x = i ∧ k ≤ x) ∨ (¬ x = i ∧ k ≤ x) ∨ (¬ x = i ∧ ¬ k ≤ x) := by omega
  have ey : (y = i ∧ k ≤ y) ∨ (¬ y = i ∧ k ≤ y) ∨ (¬ y = i ∧ ¬ k ≤ y) := by omega
  have ez : (z = i ∧ k ≤ z) ∨ (¬ z = i ∧ k ≤ z) ∨ (¬ z = i ∧ ¬ k ≤ z) := by omega
  rcases ex with ⟨a1, b1⟩ | ⟨a1, b1⟩ | ⟨a1, b1⟩ <;> rcases ey with ⟨a2, b2⟩ | ⟨a2, b2⟩ | ⟨a2, b2⟩ <;> rcases ez with ⟨a3, b3⟩ | ⟨a3, b3⟩ | ⟨a3, b3⟩ <;>
    ((first | rw [if_pos a1] | rw [if_neg a1]); (first | rw [if_pos b1] | rw [if_neg b1]); (first | rw [if_pos a2] | rw [if_neg a2]); (first | rw [if_pos b2] | rw [if_neg b2]); (first | rw [if_pos a3] | rw [if_neg a3]); (first | rw [if_pos b3] | rw [if_neg b3]); decide)
theorem ge_in {x y z k i : Int} (h : k ≤ i) : ge i x y z ∈ subs (ge k x y z) := by
  unfold ge
  have ex : (i ≤ x ∧ k ≤ x) ∨ (¬ i ≤ x ∧ k ≤ x) ∨ (¬ i ≤ x ∧ ¬ k ≤ x) := by omega
  have ey : (i ≤ y ∧ k ≤ y) ∨ (¬ i ≤ y ∧ k ≤ y) ∨ (¬ i ≤ y ∧ ¬ k ≤ y) := by omega
  have ez : (i ≤ z ∧ k ≤ z) ∨ (¬ i ≤ z ∧ k ≤ z) ∨ (¬ i ≤ z ∧ ¬ k ≤ z) := by omega
  rcases ex with ⟨a1, b1⟩ | ⟨a1, b1⟩ | ⟨a1, b1⟩ <;> rcases ey with ⟨a2, b2⟩ | ⟨a2, b2⟩ | ⟨a2, b2⟩ <;> rcases ez with ⟨a3, b3⟩ | ⟨a3, b3⟩ | ⟨a3, b3⟩ <;>
    ((first | rw [if_pos a1] | rw [if_neg a1]); (first | rw [if_pos b1] | rw [if_neg b1]); (first | rw [if_pos a2] | rw [if_neg a2]); (first | rw [if_pos b2] | rw [if_neg b2]); (first | rw [if_pos a3] | rw [if_neg a3]); (first | rw [if_pos b3] | rw [if_neg b3]); decide)
/-- What the first bidders have is no more than what goes to them. -/
theorem got_first (x y z : Int) : ∀ (ts : List (List Int)) (k : Int), Got ts (ge k x y z - ge (k + ts.length) x y z) (wk ts k x y z)
  | [], k => rfl
  | t :: ts, k => by
    obtain ⟨h1, h2⟩ := ge_step k x y z
    have h3 := got_first x y z ts (k + 1)
    have e : k + ((t :: ts).length : Int) = k + 1 + (ts.length : Int) := by simp; omega
    rw [e]
    have h4 : ge (k + 1 + (ts.length : Int)) x y z ∈ subs (ge k x y z - skn x y z k) := by rw [h2]; exact ge_in (by omega)
    obtain ⟨_, q2, q3⟩ := sub_sub (ge_lt k x y z) h1 h4
    rw [h2] at q3
    exact ⟨_, q2, _, by rw [← q3]; exact h3, rfl⟩
/-- The same without one of them. -/
theorem got_but (x y z : Int) : ∀ (ts : List (List Int)) (i : Nat) (k : Int), i < ts.length → skn x y z (k + i) ∈ subs (ge k x y z - ge (k + ts.length) x y z) ∧
    Got (ts.eraseIdx i) (ge k x y z - ge (k + ts.length) x y z - skn x y z (k + i)) (wk ts k x y z - T (ts.getD i []) (skn x y z (k + i)))
  | [], i, k, h => by simp at h
  | t :: ts, i, k, h => by
    obtain ⟨h1, h2⟩ := ge_step k x y z
    have e : k + ((t :: ts).length : Int) = k + 1 + (ts.length : Int) := by simp; omega
    rw [e]
    have h4 : ge (k + 1 + (ts.length : Int)) x y z ∈ subs (ge k x y z - skn x y z k) := by rw [h2]; exact ge_in (by omega)
    obtain ⟨q1, q2, q3⟩ := sub_sub (ge_lt k x y z) h1 h4
    rw [h2] at q3
    have hlt : ge k x y z - ge (k + 1 + (ts.length : Int)) x y z < 8 := Nat.lt_of_le_of_lt (Nat.sub_le _ _) (ge_lt k x y z)
    cases i with
    | zero =>
      have h3 := got_first x y z ts (k + 1)
      simp only [List.eraseIdx_zero, List.tail_cons, List.getD_cons_zero, wk]
      rw [show k + ((0 : Nat) : Int) = k by omega]
      refine ⟨q2, ?_⟩
      rw [← q3, show T t (skn x y z k) + wk ts (k + 1) x y z - T t (skn x y z k) = wk ts (k + 1) x y z by omega]
      exact h3
    | succ i =>
      obtain ⟨r1, r2⟩ := got_but x y z ts i (k + 1) (by simpa using h)
      simp only [List.eraseIdx_cons_succ, List.getD_cons_succ, wk]
      rw [show k + ((i + 1 : Nat) : Int) = k + 1 + (i : Int) by omega]
      rw [q3] at r1 r2
      obtain ⟨p1, p2, p3⟩ := sub_sub hlt q2 r1
      refine ⟨p1, _, p2, _, by rw [← p3]; exact r2, by omega⟩

/-- Sets of a way that ends with one more bidder. -/
theorem apart_sets {G D A B : Nat} (hG : G < 8) (hD : D ∈ subs G) (hB : B ∈ subs D) (hA : A ∈ subs (G - D)) :
    B ∈ subs 7 ∧ A ∈ subs 7 ∧ A ∈ subs (7 - B) ∧ 7 - B - A = 7 - (A ||| B) ∧ (A ||| B) ∈ subs 7 ∧ (G - D - A) ∈ subs (7 - B - A) := by
  have h1 := all3 (p := fun G D B => !(D &&& G == D) || !(B &&& D == B) || ((G - D) &&& (7 - B) == G - D)) (by decide) hG (subs_lt hD) (subs_lt hB)
  simp [subs_and hD, subs_and hB] at h1
  have hP : G - D < 8 := Nat.lt_of_le_of_lt (Nat.sub_le _ _) hG
  have h2 := all3 (p := fun P A B => !(P &&& (7 - B) == P) || !(A &&& P == A) || (A &&& (7 - B) == A && 7 - B - A == 7 - (A ||| B) && (P - A) &&& (7 - B - A) == P - A && decide (A ||| B < 8) && decide (P - A < 8))) (by decide) hP (subs_lt hA) (subs_lt hB)
  simp [h1, subs_and hA] at h2
  obtain ⟨⟨⟨⟨e1, e2⟩, e3⟩, e4⟩, e5⟩ := h2
  exact ⟨in7 (subs_lt hB), in7 (subs_lt hA), by simp [subs, subs_lt hA, e1], e2, in7 e4, by simp [subs, e5]; exact e3⟩

end Go.Proofs.Ytfjncipekjnbjaa

/-
  Chapter 7: loads by the model.
-/
namespace Go.Proofs.Ytfjncipekjnbjaa
open Go.RowKit

theorem pr7_step (p : List Int) {k : Nat} (hk : k < 3) : prTo p 7 (k + 1) = prTo p 7 k + T p k := by
  rcases nat3 hk with rfl | rfl | rfl <;> simp [prTo]
theorem pr7_bd {p : List Int} (hp : VP p) {k : Nat} (hk : k ≤ 3) : 0 ≤ prTo p 7 k ∧ prTo p 7 k ≤ 120 := by
  have := prTo_bd hp (s := 7) k hk
  omega

set_option maxRecDepth 100000 in
set_option maxHeartbeats 1000000 in
theorem Sload_any (A B : Option Addr) (c d n : Nat) (ts : List (List Int)) (p : List Int) (w : World) (hn : ts.length = n) (h : RdR w A c ts) (g : Rd w B d p) (hv : ∀ t ∈ ts, VT t) (h4 : n ≤ 4) (hp : VP p) :
    Calls Try.prog 104 #[.slice A n c, .slice B 3 d] w fun e w' => e = .returned (.int .i64 (lo ts p)) ∧ ∃ n, w' = w.drewN n := by
  have h3 := hp.1
  have HN := Lib.hid hn
  have HP7 := Lib.hid (fun k (hk : k ≤ 3) => pr7_bd hp hk)
  have HV3 := Lib.hid hp.2
  have HSB := Lib.hid (fun k => suS_take_bd hv hp k)
  have HVT := Lib.hid hv
  have HVP := Lib.hid hp
  have H3 := Lib.hid h3
  clear hp hn hv h3
  go_enter Try.func104, Try.ntmps104
  go_wp2
  go_loopw [5, 6] (fun o i wr => ∃ k m : Nat, k ≤ 3 ∧ o = .int .i64 (prTo p 7 k) ∧ i = .int .i64 (k : Int) ∧ wr = w.drewN m) (fun _ i _ => 3 - (intOf i).toNat)
  case atStart => exact ⟨0, 0, by omega, rfl, rfl, rfl⟩
  case round =>
    obtain ⟨k, m, hk, rfl, rfl, rfl⟩ := hrel
    by_cases hlt : k < 3
    · obtain ⟨b, off, x, rfl, _, hx, hc⟩ := g.at_ (k := k) (by rw [H3.out]; exact hlt)
      have hT := T_of hx.out
      have HPS : Hid (prTo p 7 (k + 1) = prTo p 7 k + x) := Lib.hid (by rw [pr7_step p hlt, hT])
      have hb := HP7.out k (by omega)
      have hxb := HV3.out k hlt
      rw [hT] at hxb
      obtain ⟨V, hV⟩ : ∃ V, V = prTo p 7 k := ⟨_, rfl⟩
      rw [← hV] at hb HPS ⊢
      have e1 : IntKind.i64.wrap (V + x) = V + x := IntWalk.i64_in _ (by omega)
      have hk3 : (k : Int) < 3 := by omega
      have hk1 : k + 1 ≤ 3 := hlt
      clear hV hx hT hb hxb hlt
      go_wp2
      go_roundw
      case rel => exact ⟨k + 1, _, hk1, by rw [HPS.out], by go_num, rfl⟩
      case measure => simp [intOf]; omega
    · obtain rfl : k = 3 := by omega
      have hpb := HP7.out 3 (by omega)
      have HLO : Hid (∀ k, prTo p 7 3 + suS (ts.take k) p = pr p 7 + suS (ts.take k) p) := Lib.hid (fun _ => rfl)
      obtain ⟨P, hP⟩ : ∃ P, P = prTo p 7 3 := ⟨_, rfl⟩
      rw [← hP] at hpb HLO ⊢
      rw [show ((3 : Nat) : Int) = 3 from rfl]
      have HS0 : Hid (P = P + suS (ts.take 0) p) := Lib.hid (by simp [suS])
      clear hP hlt HP7 HV3
      go_wp2
      go_loopw [5, 7] (fun o i wr => ∃ k m : Nat, k ≤ n ∧ o = .int .i64 (P + suS (ts.take k) p) ∧ i = .int .i64 (k : Int) ∧ wr = w.drewN m) (fun _ i _ => n - (intOf i).toNat)
      case atStart => exact ⟨0, m, by omega, by rw [← HS0.out], rfl, rfl⟩
      case round =>
        obtain ⟨k, m, hk, rfl, rfl, rfl⟩ := hrel
        by_cases hlt : k < n
        · obtain ⟨b, off, r, A', c', rfl, hr, hc, hcap, hrd⟩ := h.at_ (k := k) (by rw [HN.out]; exact hlt)
          have hvr := HVT.out r (List.mem_of_getElem? hr.out)
          have HSU := Lib.hid (Ssurplus_any A' B c' d r p (w.drewN m) (hrd.out.drewN _) (g.drewN _) hvr HVP.out)
          have HST := Lib.hid (suS_step p hr.out)
          have hsb := HSB.out k
          rw [HN.out] at hsb
          have hub := suTo_bd hvr HVP.out (k := 8) (Nat.le_refl _)
          have hue : su r p = suTo r p 8 := rfl
          rw [← hue] at hub
          rw [hvr.1] at hc HSU
          rw [H3.out] at HSU
          obtain ⟨u, hu⟩ : ∃ u, u = su r p := ⟨_, rfl⟩
          rw [← hu] at hub HST HSU
          obtain ⟨V, hV⟩ : ∃ V, V = suS (ts.take k) p := ⟨_, rfl⟩
          rw [← hV] at hsb HST ⊢
          have e1 : IntKind.i64.wrap (P + V + u) = P + (V + u) := by rw [IntWalk.i64_in _ (by omega)]; omega
          have hk1 : k + 1 ≤ n := hlt
          have hkn : (k : Int) < (n : Int) := by omega
          clear hV hu hue hub hsb hr hvr hrd hcap hlt
          go_wp2_with fail
          refine HSU.out.mono ?_
          rintro e w5 ⟨rfl, q, rfl⟩
          go_wp2
          go_roundw
          case rel => exact ⟨k + 1, _, hk1, by rw [HST.out], by go_num, rfl⟩
          case measure => simp [intOf]; omega
        · obtain rfl : k = n := by omega
          have HE : Hid (P + suS (ts.take k) p = lo ts p) := Lib.hid (by rw [HLO.out, List.take_of_length_le (by rw [HN.out]; omega)]; rfl)
          go_wp2
          go_ret
          exact ⟨by rw [HE.out]; rfl, _, rfl⟩

/-- What LoadAt tells. -/
noncomputable def loB (ts : List (List Int)) (p : List Int) : Int := if vtsB ts && vp p then lo ts p else -1
theorem loB_no {ts : List (List Int)} {p : List Int} (h : (vtsB ts && vp p) = false) : loB ts p = -1 := by unfold loB; rw [h]; rfl
theorem loB_yes {ts : List (List Int)} {p : List Int} (h1 : vtsB ts = true) (h2 : vp p = true) : loB ts p = lo ts p := by unfold loB; rw [h1, h2]; rfl

set_option maxHeartbeats 800000 in
theorem SLoadAt_any (A B : Option Addr) (c d : Nat) (ts : List (List Int)) (p : List Int) (w : World) (h : RdR w A c ts) (g : Rd w B d p) (hl : ts.length ≤ 1099511627776) (hl2 : ∀ r ∈ ts, r.length ≤ 1099511627776) (gl : p.length ≤ 1099511627776) :
    Calls Try.prog 47 #[.slice A ts.length c, .slice B p.length d] w fun e w' => e = .returned (.int .i64 (loB ts p)) ∧ ∃ n, w' = w.drewN n := by
  have HV := Lib.hid (SvalidTables_any A c ts w h hl hl2)
  have HQ := Lib.hid (fun w1 (g : Rd w1 B d p) => SvalidPrices_any B d p w1 g gl)
  rcases hv : vtsB ts with _ | _
  · have HE := Lib.hid (loB_no (ts := ts) (p := p) (by rw [hv]; rfl))
    rw [hv] at HV
    clear hv
    go_enter Try.func47, Try.ntmps47
    go_wp2_with fail
    refine HV.out.mono ?_
    rintro e w1 ⟨rfl, n, rfl⟩
    go_wp2
    go_ret
    exact ⟨by rw [HE.out]; rfl, _, rfl⟩
  rcases hp : vp p with _ | _
  · have HE := Lib.hid (loB_no (ts := ts) (p := p) (by rw [hp]; simp))
    rw [hv] at HV
    rw [hp] at HQ
    clear hv hp
    go_enter Try.func47, Try.ntmps47
    go_wp2_with fail
    refine HV.out.mono ?_
    rintro e w1 ⟨rfl, n, rfl⟩
    go_wp2_with fail
    refine (HQ.out _ (g.drewN _)).mono ?_
    rintro e w1 ⟨rfl, m, rfl⟩
    go_wp2
    go_ret
    exact ⟨by rw [HE.out]; rfl, _, rfl⟩
  · have HE := Lib.hid (loB_yes hv hp)
    have hvt := vtsB_iff.1 hv
    have hvp := vp_iff.1 hp
    have HL := Lib.hid (fun w1 (h : RdR w1 A c ts) (g : Rd w1 B d p) => Sload_any A B c d ts.length ts p w1 rfl h g hvt.2 hvt.1.2 hvp)
    have h3 := hvp.1
    rw [hv] at HV
    rw [hp] at HQ
    rw [h3] at HQ ⊢
    clear hv hp hvt hvp h3
    go_enter Try.func47, Try.ntmps47
    go_wp2_with fail
    refine HV.out.mono ?_
    rintro e w1 ⟨rfl, n, rfl⟩
    go_wp2_with fail
    refine (HQ.out _ (g.drewN _)).mono ?_
    rintro e w1 ⟨rfl, m, rfl⟩
    go_wp2_with fail
    refine (HL.out _ (h.drewN _) (g.drewN _)).mono ?_
    rintro e w1 ⟨rfl, k, rfl⟩
    go_wp2
    go_ret
    exact ⟨by rw [HE.out]; rfl, _, rfl⟩

end Go.Proofs.Ytfjncipekjnbjaa

/-
  Chapter 7: whether sets clear at prices, and whether some do, by the model.
-/
namespace Go.Proofs.Ytfjncipekjnbjaa
open Go.RowKit

/-- The things that go to the first k bidders. -/
def tkF (os : List Int) (k : Nat) : Nat := ge 0 (os.getD 0 0) (os.getD 1 0) (os.getD 2 0) - ge (k : Int) (os.getD 0 0) (os.getD 1 0) (os.getD 2 0)
theorem tk_zero (os : List Int) : tkF os 0 = 0 := by unfold tkF; simp
theorem tk_lt (os : List Int) (k : Nat) : tkF os k < 8 := Nat.lt_of_le_of_lt (Nat.sub_le _ _) (ge_lt _ _ _ _)
theorem part_step {G D s : Nat} (hG : G < 8) (hD : D ∈ subs G) (hs : s ∈ subs D) : (G - D) ||| s = G - (D - s) ∧ s ∈ subs (G - (D - s)) ∧ G - (D - s) - s = G - D := by
  have h := all3 (p := fun G D s => !(D &&& G == D) || !(s &&& D == s) || ((G - D) ||| s == G - (D - s) && s &&& (G - (D - s)) == s && G - (D - s) - s == G - D)) (by decide) hG (subs_lt hD) (subs_lt hs)
  simp [subs_and hD, subs_and hs] at h
  exact ⟨h.1.1, by simp [subs, subs_lt hs, h.1.2], h.2⟩
theorem tk_step (os : List Int) (k : Nat) : tkF os k ||| setOf os k = tkF os (k + 1) ∧ setOf os k ∈ subs (tkF os (k + 1)) ∧ tkF os (k + 1) - setOf os k = tkF os k := by
  obtain ⟨h1, h2⟩ := ge_step (k : Int) (os.getD 0 0) (os.getD 1 0) (os.getD 2 0)
  have hD := ge_in (x := os.getD 0 0) (y := os.getD 1 0) (z := os.getD 2 0) (show (0 : Int) ≤ (k : Int) by omega)
  have hG := ge_lt 0 (os.getD 0 0) (os.getD 1 0) (os.getD 2 0)
  obtain ⟨e1, e2, e3⟩ := part_step hG hD h1
  rw [h2] at e1 e2 e3
  have ec : ((k + 1 : Nat) : Int) = (k : Int) + 1 := by omega
  have es : setOf os k = skn (os.getD 0 0) (os.getD 1 0) (os.getD 2 0) (k : Int) := rfl
  unfold tkF
  rw [ec, es]
  exact ⟨e1, e2, e3⟩
theorem tk_pr (p os : List Int) (k : Nat) : pr p (tkF os (k + 1)) = pr p (tkF os k) + pr p (setOf os k) := by
  obtain ⟨_, h2, h3⟩ := tk_step os k
  have := pr_sub (p := p) (tk_lt os (k + 1)) h2
  rw [h3] at this
  omega
/-- The first k sets are in demand. -/
def ClTo (ts : List (List Int)) (p os : List Int) (k : Nat) : Prop := ∀ j, j < k → ∀ t, ts[j]? = some t → lf t p (setOf os j) = su t p
/-- The sets clear at the prices. -/
def ClE (ts : List (List Int)) (p os : List Int) : Prop := ClTo ts p os ts.length ∧ pr p (7 - tkF os ts.length) = 0
theorem ClTo.next {ts : List (List Int)} {p os : List Int} {k : Nat} {t : List Int} (h : ClTo ts p os k) (ht : ts[k]? = some t) (he : lf t p (setOf os k) = su t p) : ClTo ts p os (k + 1) := fun j hj u hu => by
  rcases Nat.lt_or_ge j k with h1 | h1
  · exact h j h1 u hu
  · obtain rfl : j = k := by omega
    rw [ht] at hu
    injection hu with hu
    rw [← hu]
    exact he
theorem cl_short {ts : List (List Int)} (p os : List Int) : ∀ k, k ≤ ts.length → worthF (ts.take k) os ≤ suS (ts.take k) p + pr p (tkF os k) ∧ (worthF (ts.take k) os = suS (ts.take k) p + pr p (tkF os k) ↔ ClTo ts p os k)
  | 0, _ => by
    have h0 := (pr_vals p).1
    rw [tk_zero, h0]
    simp [worthF, wk, suS, ClTo]
  | k + 1, hk => by
    obtain ⟨h1, h2⟩ := cl_short (ts := ts) p os k (by omega)
    obtain ⟨t, ht⟩ : ∃ t, ts[k]? = some t := ⟨_, List.getElem?_eq_getElem (by omega)⟩
    have e1 := worthF_step os ht
    have e2 := suS_step p ht
    have e3 := tk_pr p os k
    have e4 := su_le (t := t) (p := p) (setOf_lt os k)
    unfold lf at e4
    rw [e1, e2, e3]
    refine ⟨by omega, ?_⟩
    constructor
    · intro h
      have h3 : worthF (ts.take k) os = suS (ts.take k) p + pr p (tkF os k) := by omega
      exact (h2.1 h3).next ht (by unfold lf; omega)
    · intro h
      have h3 := h2.2 (fun j hj => h j (by omega))
      have h4 := h k (by omega) t ht
      unfold lf at h4
      omega
theorem cle_iff {ts : List (List Int)} {p os : List Int} (hp : VP p) : ClE ts p os ↔ worthF ts os = lo ts p := by
  obtain ⟨h1, h2⟩ := cl_short (ts := ts) p os ts.length (Nat.le_refl _)
  rw [List.take_length] at h1 h2
  have h3 := pr_sub (p := p) (by omega) (in7 (tk_lt os ts.length))
  have h4 := (hp.bd (Nat.lt_of_le_of_lt (Nat.sub_le 7 (tkF os ts.length)) (by omega))).1
  unfold ClE lo
  constructor
  · rintro ⟨c1, c2⟩
    have := h2.2 c1
    omega
  · intro h
    exact ⟨h2.1 (by omega), by omega⟩
noncomputable def clB (ts : List (List Int)) (p os : List Int) : Bool := @decide (ClE ts p os) (Classical.propDecidable _)
theorem clB_true {ts : List (List Int)} {p os : List Int} (h : ClE ts p os) : clB ts p os = true := by unfold clB; simp [h]
theorem clB_false {ts : List (List Int)} {p os : List Int} (h : ¬ ClE ts p os) : clB ts p os = false := by unfold clB; simp [h]
theorem clB_iff {ts : List (List Int)} {p os : List Int} : clB ts p os = true ↔ ClE ts p os := by unfold clB; simp
/-- Whether some sets clear. -/
noncomputable def icB (ts : List (List Int)) (p : List Int) : Bool := @decide (lo ts p = sv ts 7) (Classical.propDecidable _)
theorem icB_iff {ts : List (List Int)} {p : List Int} : icB ts p = true ↔ lo ts p = sv ts 7 := by unfold icB; simp
theorem ic_yes {ts : List (List Int)} {p os : List Int} (hv : VTs ts) (hp : VP p) (h : ClE ts p os) : icB ts p = true := by
  have h1 := (cle_iff hp).1 h
  have h2 := worthF_le (ts := ts) os
  have h3 := lo_ge (VTs.zeros hv.2) hp (ts := ts)
  exact icB_iff.2 (by omega)
theorem ic_no {ts : List (List Int)} {p : List Int} (hv : VTs ts) (hp : VP p) (h : ∀ os ∈ allF (ts.length : Int) (List.replicate 3 0), ¬ ClE ts p os) : icB ts p = false := by
  rcases hb : icB ts p with _ | _
  · rfl
  · have he := icB_iff.1 hb
    obtain ⟨x, y, z, hx, hy, hz, _, _, _, hw⟩ := got_wk ts 7 0 _ (by omega) (got_sv (VTs.zeros hv.2) 7)
    have hm := ways_come hv.1.2 (x := x) (y := y) (z := z) (by omega) (by omega) (by omega)
    exact absurd ((cle_iff hp).2 (by rw [he]; exact hw)) (h _ hm)

theorem SallC_any (w : World) : Calls Try.prog 113 #[] w fun e w' => e = .returned (.int .i64 7) ∧ w = w' := by
  have HP : Hid (∀ w1, Calls Try.prog 88 #[.int .i64 3] w1 fun e w' => e = .returned (.int .i64 8) ∧ w1 = w') := Lib.hid (fun w1 => Spower_any 3 (by omega) w1)
  go_enter Try.func113, Try.ntmps113
  go_wp2_with (go_at_call 88; refine (HP.out _).mono ?_; rintro e w1 ⟨rfl, rfl⟩)
  go_ret
  exact ⟨rfl, rfl⟩
theorem less7 {x : Nat} (hx : x < 8) : bits .andNot .i64 7 (x : Int) = ((7 - x : Nat) : Int) := by
  have : ∀ x, x < 8 → bits .andNot .i64 7 ((x : Nat) : Int) = ((7 - x : Nat) : Int) := by decide
  exact this x hx

set_option maxRecDepth 100000 in
set_option maxHeartbeats 1600000 in
theorem Sclears_any (A B C : Option Addr) (c d f n : Nat) (ts : List (List Int)) (p os : List Int) (w : World) (h : RdR w A c ts) (g : Rd w B d p) (r : Rd w C f (setsF os n)) (hv : ∀ t ∈ ts, VT t) (hp : VP p) (hn : ts.length = n) (hn4 : n ≤ 4) :
    Calls Try.prog 127 #[.slice A n c, .slice B 3 d, .slice C n f] w fun e w' => e = .returned (.bool (clB ts p os)) ∧ ∃ m, w' = w.drewN m := by
  have HV := Lib.hid hv
  have HP := Lib.hid hp
  have H3 := Lib.hid hp.1
  have HN := Lib.hid hn
  have HAT := Lib.hid (fun (k : Nat) (hk : k < n) => setsF_at os hk)
  have HYES := Lib.hid (fun (h1 : ClTo ts p os n) (h2 : pr p (7 - tkF os n) = 0) => clB_true (ts := ts) (p := p) (os := os) ⟨by rw [hn]; exact h1, by rw [hn]; exact h2⟩)
  have HNO1 := Lib.hid (fun (h2 : ¬ pr p (7 - tkF os n) = 0) => clB_false (ts := ts) (p := p) (os := os) (fun h => h2 (by have := h.2; rw [hn] at this; exact this)))
  have HNO2 := Lib.hid (fun (k : Nat) (t : List Int) (hk : k < n) (ht : ts[k]? = some t) (he : ¬ lf t p (setOf os k) = su t p) => clB_false (ts := ts) (p := p) (os := os) (fun h => he (h.1 k (by rw [hn]; exact hk) t ht)))
  clear hv hp hn
  go_enter Try.func127, Try.ntmps127
  go_wp2
  go_loopw [7, 8] (fun tv iv wr => ∃ k m : Nat, k ≤ n ∧ tv = .int .i64 ((tkF os k : Nat) : Int) ∧ iv = .int .i64 (k : Int) ∧ wr = w.drewN m ∧ Hid (ClTo ts p os k)) (fun _ iv _ => n - (intOf iv).toNat)
  case atStart => exact ⟨0, 0, by omega, by rw [tk_zero]; rfl, rfl, rfl, Lib.hid (fun j hj => absurd hj (by omega))⟩
  case round =>
    obtain ⟨k, m, hk, rfl, rfl, rfl, HC⟩ := hrel
    by_cases hlt : k < n
    · obtain ⟨b, off, t, A', c', rfl, ht, hc, _, hrd⟩ := h.at_ (k := k) (by rw [HN.out]; exact hlt)
      have hvt := HV.out t (List.mem_of_getElem? ht.out)
      obtain ⟨b2, off2, x, rfl, _, hx, hcx⟩ := r.at_ (k := k) (by rw [setsF_len]; exact hlt)
      have hxe : x = ((setOf os k : Nat) : Int) := by have := HAT.out k hlt; rw [hx.out] at this; injection this
      subst hxe
      have hs8 := setOf_lt os k
      obtain ⟨b3, off3, y, rfl, _, hy, hcy⟩ := hrd.out.at_ (k := setOf os k) (by rw [hvt.1]; exact hs8)
      rw [hvt.1] at hc
      have hTy := T_of hy.out
      have hyb := hvt.bd hs8
      rw [hTy] at hyb
      have hpb := HP.out.bd hs8
      have HPR := Lib.hid (fun (q : Nat) => calls_qn (w := w) (m := m) (SpriceOf_any B d p (setOf os k) (w.drewN (m + q)) (g.drewN _) HP.out hs8))
      have HSU := Lib.hid (fun (q : Nat) => calls_qn (w := w) (m := m) (Ssurplus_any (some ⟨b3, off3, none⟩) B c' d t p (w.drewN (m + q)) (hrd.out.drewN _) (g.drewN _) hvt HP.out))
      rw [hvt.1] at HSU
      rw [H3.out] at HSU HPR
      obtain ⟨ht1, _, ht3⟩ := tk_step os k
      have htk := tk_lt os k
      have horr := or_nat htk hs8
      rw [ht1] at horr
      have HNX : Hid (y - pr p (setOf os k) = su t p → ClTo ts p os (k + 1)) := Lib.hid (fun e => HC.out.next ht.out (by unfold lf; rw [hTy]; exact e))
      have HNN : Hid (¬ y - pr p (setOf os k) = su t p → clB ts p os = false) := Lib.hid (fun e => HNO2.out k t hlt ht.out (by unfold lf; rw [hTy]; exact e))
      obtain ⟨s, hS⟩ : ∃ s, s = setOf os k := ⟨_, rfl⟩
      rw [← hS] at hcx hcy hs8 HPR horr hpb HNX HNN
      obtain ⟨P, hP⟩ : ∃ P, P = pr p s := ⟨_, rfl⟩
      rw [← hP] at HPR hpb HNX HNN
      obtain ⟨M, hM⟩ : ∃ M, M = su t p := ⟨_, rfl⟩
      rw [← hM] at HSU HNX HNN
      have hs0 : (0 : Int) ≤ (s : Int) := by omega
      have hs8' : (s : Int) < 8 := by omega
      have hk0 : (0 : Int) ≤ (k : Int) := by omega
      have hkn : (k : Int) < (n : Int) := by omega
      have hk1 : k + 1 ≤ n := hlt
      have e1 : IntKind.i64.wrap (y - P) = y - P := IntWalk.i64_in _ (by omega)
      clear hS hP hM hTy hy hvt ht hrd hyb hpb hx ht1 ht3 hlt
      by_cases he : y - P = M
      · have HC' := Lib.hid (HNX.out he)
        have hq : (y - P != M) = false := by simp [he]
        clear HNX HNN he
        go_wp2_with fail
        go_quiet (first | (go_at_call 122; exact HPR.out _) | (go_at_call 80; exact HSU.out _))
        go_wp2
        go_roundw
        case rel => exact ⟨k + 1, _, hk1, by rw [← horr], by go_num, rfl, HC'⟩
        case measure => simp [intOf]; omega
      · have HE := Lib.hid (HNN.out he)
        have hq : (y - P != M) = true := by simp [he]
        clear HNX HNN he
        go_wp2_with fail
        go_quiet (first | (go_at_call 122; exact HPR.out _) | (go_at_call 80; exact HSU.out _))
        go_wp2
        go_ret
        exact ⟨by rw [HE.out]; rfl, _, World.drewN_drewN _ _ _⟩
    · obtain rfl : k = n := by omega
      have htk := tk_lt os k
      have HY := Lib.hid (HYES.out HC.out)
      have hrs : 7 - tkF os k < 8 := Nat.lt_of_le_of_lt (Nat.sub_le _ _) (by omega)
      have HPR := Lib.hid (fun W (gW : Rd W B d p) => SpriceOf_any B d p (7 - tkF os k) W gW HP.out hrs)
      rw [H3.out] at HPR
      have hno := HNO1.out
      obtain ⟨X, hX⟩ : ∃ X, X = tkF os k := ⟨_, rfl⟩
      rw [← hX] at htk HY HPR hno ⊢
      have e0 := less7 htk
      obtain ⟨Y, hY⟩ : ∃ Y, Y = 7 - X := ⟨_, rfl⟩
      rw [← hY] at e0 HY HPR hno
      obtain ⟨P, hP⟩ : ∃ P, P = pr p Y := ⟨_, rfl⟩
      rw [← hP] at HY HPR hno
      have HNN := Lib.hid hno
      clear hX hY hP hno hlt
      by_cases hz : P = 0
      · have HE := Lib.hid (HY.out hz)
        have hq : (P == 0) = true := by simp [hz]
        clear hz HY HNN
        go_wp2_with fail
        refine (SallC_any _).mono ?_
        rintro e w5 ⟨rfl, rfl⟩
        go_wp2_with fail
        refine (HPR.out _ (g.drewN _)).mono ?_
        rintro e w6 ⟨rfl, q, rfl⟩
        go_wp2
        go_ret
        exact ⟨by rw [HE.out]; rfl, _, rfl⟩
      · have HE := Lib.hid (HNN.out hz)
        have hq : (P == 0) = false := by simp [hz]
        clear hz HY HNN
        go_wp2_with fail
        refine (SallC_any _).mono ?_
        rintro e w5 ⟨rfl, rfl⟩
        go_wp2_with fail
        refine (HPR.out _ (g.drewN _)).mono ?_
        rintro e w6 ⟨rfl, q, rfl⟩
        go_wp2
        go_ret
        exact ⟨by rw [HE.out]; rfl, _, rfl⟩

end Go.Proofs.Ytfjncipekjnbjaa

/-
  Chapter 7: whether some sets clear at prices, by the model: clearing, IsClear.
-/
namespace Go.Proofs.Ytfjncipekjnbjaa
open Go.RowKit

set_option maxRecDepth 100000 in
set_option maxHeartbeats 4000000 in
theorem Sclearing_any (A B : Option Addr) (c d n : Nat) (ts : List (List Int)) (p : List Int) (w : World) (h : RdR w A c ts) (g : Rd w B d p) (hv : VTs ts) (hp : VP p) (hn : ts.length = n) :
    Calls Try.prog 99 #[.slice A n c, .slice B 3 d] w fun e w' => e = .returned (.bool (icB ts p)) ∧ Below w.heap.size w w' := by
  have hn1 : 1 ≤ n := by have := hv.1; omega
  have hn4 : n ≤ 4 := by have := hv.1; omega
  have HYES := Lib.hid (fun (os : List Int) (hc : ClE ts p os) => ic_yes hv hp hc)
  have HNO := Lib.hid (fun (L : List (List Int)) (hd : DoneTo n L none) (hc : ∀ os ∈ L, ¬ ClE ts p os) => ic_no hv hp (by rw [hn]; have hd' : allF (n : Int) (List.replicate 3 0) = L := hd; rw [hd']; exact hc))
  have HCL := Lib.hid (fun (C : Option Addr) (f : Nat) (os : List Int) (W : World) (h : RdR W A c ts) (g : Rd W B d p) (r : Rd W C f (setsF os n)) => Sclears_any A B C c d f n ts p os W h g r hv.2 hp hn hn4)
  clear hv hp hn
  go_enter Try.func99, Try.ntmps99
  go_wp2_with (at_make; refine wpList_make_ints rfl _ _ rfl w.heap.size 3 rfl rfl (by omega) (Nat.le_refl _) ?_; intro w1 o1 b1)
  have OY0 : Hid (Own w1 w.heap.size (some ⟨w.heap.size, 0, none⟩) 3 (List.replicate 3 0)) := Lib.hid o1
  clear o1
  go_loopw [6] (fun ow wr => ∃ (L : List (List Int)), Below w.heap.size w wr ∧ Hid (∀ os ∈ L, ¬ ClE ts p os) ∧
      ((∃ g c ys, ow = .slice (some ⟨g, 0, none⟩) 3 c ∧ Hid (Own wr w.heap.size (some ⟨g, 0, none⟩) c ys) ∧ Hid (StL n L ys)) ∨ (ow = .slice none 0 0 ∧ Hid (DoneTo n L none))))
    (fun ow wr => roundsLeft n wr ow)
  case atStart => exact ⟨[], b1, Lib.hid (fun _ h => absurd h (by simp)), .inl ⟨_, _, List.replicate 3 0, rfl, OY0, Lib.hid (StL.start n)⟩⟩
  case round =>
    clear OY0 b1
    obtain ⟨L, hb, HNC, ⟨g1, c1, ys, rfl, HOY, HST⟩ | ⟨rfl, HD⟩⟩ := hrel
    · have hy3 := HST.out.2.1.1
      have HL := Lib.hid (left3_own (top := (n : Int)) HOY.out hy3)
      have HF := Lib.hid HST.out.2.1
      have HFB := Lib.hid HF.out.2
      have HSO := Lib.hid (SsetsOf_any (some ⟨g1, 0, none⟩) c1 n ys wr HOY.out.rd HF.out hn1 hn4)
      have hr1 := h.below hb
      have gr1 := g.below hb
      have HY3 := Lib.hid hy3
      clear hy3
      go_wp2_with fail
      refine HSO.out.mono ?_
      rintro e w2 ⟨g2, c2, rfl, o2, b2⟩
      have HB2 : Hid (Below w.heap.size w w2) := Lib.hid (hb.trans (b2.mono hb.size))
      have HC2 := Lib.hid (HCL.out (some ⟨g2, 0, none⟩) c2 ys w2 (hr1.below b2) (gr1.below b2) o2.rd)
      have HOY2 := Lib.hid (HOY.out.below b2)
      clear HOY b2 o2 HSO hr1 gr1 hb
      rcases hcb : clB ts p ys with _ | _
      · have HN1 : Hid (∀ os ∈ L ++ [ys], ¬ ClE ts p os) := Lib.hid (fun os hos => by
          rcases List.mem_append.1 hos with h1 | h1
          · exact HNC.out os h1
          · obtain rfl : os = ys := by simpa using h1
            exact fun hh => by rw [clB_true hh] at hcb; cases hcb)
        rw [hcb] at HC2
        clear hcb
        go_wp2_with fail
        refine HC2.out.mono ?_
        rintro e w3 ⟨rfl, m3, rfl⟩
        have O3 := Lib.hid (HOY2.out.drewN m3)
        have B3 := Lib.hid (below_drewN' HB2.out m3)
        clear HOY2 HC2
        go_wp2_with fail
        refine (next_n (m := 3) (some ⟨g1, 0, none⟩) c1 ys n _ HY3.out (O3.out).rd (by omega) (by omega) (by omega) HFB.out).mono ?_
        rintro e w4 (⟨zs, g3, c3, HN, rfl, o3, b4⟩ | ⟨HN, rfl, b4⟩)
        · have HS4 := Lib.hid (HST.out.next HN)
          have hz3 := HS4.out.2.1.1
          have HL3 := Lib.hid (HF.out.next HN).2
          have B4 := B3.out.trans (b4.mono B3.out.size)
          have O4 := Lib.hid (o3.base B3.out.size)
          clear HN o3 b4
          rw [hz3]
          go_wp2
          go_roundw
          case rel => exact ⟨L ++ [ys], B4, HN1, .inl ⟨g3, c3, zs, rfl, O4, HS4⟩⟩
          case measure => rw [HL.out, left3_own O4.out hz3]; have := HL3.out; omega
        · have HS4 := Lib.hid (HST.out.last HN)
          have B4 := B3.out.trans (b4.mono B3.out.size)
          clear HN b4
          go_wp2
          go_roundw
          case rel => exact ⟨L ++ [ys], B4, HN1, .inr ⟨rfl, HS4⟩⟩
          case measure => rw [HL.out, roundsLeft_nil]; omega
      · have HE := Lib.hid (HYES.out ys (clB_iff.1 hcb))
        rw [hcb] at HC2
        clear hcb
        go_wp2_with fail
        refine HC2.out.mono ?_
        rintro e w3 ⟨rfl, m3, rfl⟩
        go_wp2
        go_ret
        exact ⟨by rw [HE.out]; rfl, below_drewN' HB2.out m3⟩
    · have HE := Lib.hid (HNO.out L HD.out HNC.out)
      go_wp2
      go_ret
      exact ⟨by rw [HE.out]; rfl, hb⟩

/-- What IsClear tells. -/
noncomputable def isB (ts : List (List Int)) (p : List Int) : Bool := vtsB ts && vp p && icB ts p

set_option maxHeartbeats 800000 in
theorem SIsClear_any (A B : Option Addr) (c d : Nat) (ts : List (List Int)) (p : List Int) (w : World) (h : RdR w A c ts) (g : Rd w B d p) (hl : ts.length ≤ 1099511627776) (hl2 : ∀ r ∈ ts, r.length ≤ 1099511627776) (gl : p.length ≤ 1099511627776) :
    Calls Try.prog 43 #[.slice A ts.length c, .slice B p.length d] w fun e w' => e = .returned (.bool (isB ts p)) ∧ Below w.heap.size w w' := by
  have HV := Lib.hid (SvalidTables_any A c ts w h hl hl2)
  have HQ := Lib.hid (fun w1 (g : Rd w1 B d p) => SvalidPrices_any B d p w1 g gl)
  rcases hv : vtsB ts with _ | _
  · have HE : Hid (isB ts p = false) := Lib.hid (by unfold isB; rw [hv]; rfl)
    rw [hv] at HV
    clear hv
    go_enter Try.func43, Try.ntmps43
    go_wp2_with fail
    refine HV.out.mono ?_
    rintro e w1 ⟨rfl, n, rfl⟩
    go_wp2
    go_ret
    exact ⟨by rw [HE.out]; rfl, below_drewN' (Below.refl _ _) n⟩
  rcases hp : vp p with _ | _
  · have HE : Hid (isB ts p = false) := Lib.hid (by unfold isB; rw [hv, hp]; rfl)
    rw [hv] at HV
    rw [hp] at HQ
    clear hv hp
    go_enter Try.func43, Try.ntmps43
    go_wp2_with fail
    refine HV.out.mono ?_
    rintro e w1 ⟨rfl, n, rfl⟩
    go_wp2_with fail
    refine (HQ.out _ (g.drewN _)).mono ?_
    rintro e w1 ⟨rfl, m, rfl⟩
    go_wp2
    go_ret
    exact ⟨by rw [HE.out]; rfl, below_drewN' (Below.refl _ _) (n + m)⟩
  · have HE : Hid (isB ts p = icB ts p) := Lib.hid (by unfold isB; rw [hv, hp]; rfl)
    have hvt := vtsB_iff.1 hv
    have hvp := vp_iff.1 hp
    have HL := Lib.hid (fun w1 (h : RdR w1 A c ts) (g : Rd w1 B d p) => Sclearing_any A B c d ts.length ts p w1 h g hvt hvp rfl)
    have h3 := hvp.1
    rw [hv] at HV
    rw [hp] at HQ
    rw [h3] at HQ ⊢
    clear hv hp hvt hvp h3
    go_enter Try.func43, Try.ntmps43
    go_wp2_with fail
    refine HV.out.mono ?_
    rintro e w1 ⟨rfl, n, rfl⟩
    go_wp2_with fail
    refine (HQ.out _ (g.drewN _)).mono ?_
    rintro e w1 ⟨rfl, m, rfl⟩
    go_wp2_with fail
    refine (HL.out _ (h.drewN _) (g.drewN _)).mono ?_
    rintro e w1 ⟨rfl, b1⟩
    go_wp2
    go_ret
    exact ⟨by rw [HE.out]; simp, (below_drewN' (Below.refl _ _) (n + m)).trans b1⟩

end Go.Proofs.Ytfjncipekjnbjaa

/-
  Chapter 7, plain: raised prices, the steepest set, the climb.
-/
namespace Go.Proofs.Ytfjncipekjnbjaa

/-- Prices with 1 more for each thing of a set. -/
def rz (p : List Int) (s : Nat) : List Int := [T p 0 + ((s % 2 : Nat) : Int), T p 1 + ((s / 2 % 2 : Nat) : Int), T p 2 + ((s / 4 % 2 : Nat) : Int)]
theorem rz_len (p : List Int) (s : Nat) : (rz p s).length = 3 := rfl
theorem rz_T0 (p : List Int) (s : Nat) : T (rz p s) 0 = T p 0 + ((s % 2 : Nat) : Int) := rfl
theorem rz_T1 (p : List Int) (s : Nat) : T (rz p s) 1 = T p 1 + ((s / 2 % 2 : Nat) : Int) := rfl
theorem rz_T2 (p : List Int) (s : Nat) : T (rz p s) 2 = T p 2 + ((s / 4 % 2 : Nat) : Int) := rfl
theorem rz_zero {p : List Int} (h : p.length = 3) : rz p 0 = p := by
  match p, h with
  | [a, b, c], _ => simp [rz, T]
/-- Prices of at most 30. -/
def Lw (p : List Int) : Prop := p.length = 3 ∧ ∀ k, k < 3 → 0 ≤ T p k ∧ T p k ≤ 30
theorem Lw.vp {p : List Int} (h : Lw p) : VP p := ⟨h.1, fun k hk => ⟨(h.2 k hk).1, by have := (h.2 k hk).2; omega⟩⟩
theorem Lw.rz {p : List Int} (h : Lw p) (s : Nat) : VP (rz p s) := ⟨rfl, fun k hk => by
  have h0 := h.2 0 (by omega)
  have h1 := h.2 1 (by omega)
  have h2 := h.2 2 (by omega)
  rcases nat3 hk with rfl | rfl | rfl
  · rw [rz_T0]; omega
  · rw [rz_T1]; omega
  · rw [rz_T2]; omega⟩
theorem pr_rz (p : List Int) {s x : Nat} (hs : s < 8) (hx : x < 8) : pr (rz p s) x = pr p x + ((x &&& s) % 2 : Nat) + ((x &&& s) / 2 % 2 : Nat) + ((x &&& s) / 4 % 2 : Nat) := by
  obtain ⟨v0, v1, v2, v3, v4, v5, v6, v7⟩ := pr_vals p
  obtain ⟨r0, r1, r2, r3, r4, r5, r6, r7⟩ := pr_vals (rz p s)
  rw [rz_T0, rz_T1, rz_T2] at *
  rcases nat8 hs with rfl | rfl | rfl | rfl | rfl | rfl | rfl | rfl <;> rcases nat8 hx with rfl | rfl | rfl | rfl | rfl | rfl | rfl | rfl <;> simp at * <;> omega
/-- A thing at 30 is not missed: surpluses are as they were when it is 1 dearer. -/
theorem su_dear {t p : List Int} (ht : VT t) {s k : Nat} (hs : s < 8) (hk : k < 3) (hb : s / 2 ^ k % 2 = 1) (hd : 30 ≤ T p k) (h0 : ∀ j, j < 3 → 0 ≤ T p j) : su t (rz p (s - 2 ^ k)) ≤ su t (rz p s) := by
  obtain ⟨x, hx, he⟩ := su_got (t := t) (p := rz p (s - 2 ^ k)) ht.2.1
  rw [he]
  have hks : s - 2 ^ k < 8 := Nat.lt_of_le_of_lt (Nat.sub_le _ _) hs
  by_cases hxk : x / 2 ^ k % 2 = 1
  · have hx2 : x - 2 ^ k < 8 := Nat.lt_of_le_of_lt (Nat.sub_le _ _) hx
    refine Int.le_trans ?_ (su_le (t := t) (p := rz p s) hx2)
    unfold lf
    rw [pr_rz p hks hx, pr_rz p hs hx2]
    have b1 := ht.bd hx
    have b2 := ht.bd hx2
    obtain ⟨v0, v1, v2, v3, v4, v5, v6, v7⟩ := pr_vals p
    have a0 := h0 0 (by omega)
    have a1 := h0 1 (by omega)
    have a2 := h0 2 (by omega)
    rcases nat3 hk with rfl | rfl | rfl <;> rcases nat8 hs with rfl | rfl | rfl | rfl | rfl | rfl | rfl | rfl <;> rcases nat8 hx with rfl | rfl | rfl | rfl | rfl | rfl | rfl | rfl <;> first | (exfalso; revert hb; decide) | (exfalso; revert hxk; decide) | (simp at * ; omega)
  · refine Int.le_trans ?_ (su_le (t := t) (p := rz p s) hx)
    unfold lf
    rw [pr_rz p hks hx, pr_rz p hs hx]
    rcases nat3 hk with rfl | rfl | rfl <;> rcases nat8 hs with rfl | rfl | rfl | rfl | rfl | rfl | rfl | rfl <;> rcases nat8 hx with rfl | rfl | rfl | rfl | rfl | rfl | rfl | rfl <;> first | (exfalso; revert hb; decide) | (exfalso; revert hxk; decide) | (simp at * )
theorem suS_dear {p : List Int} {s k : Nat} (hs : s < 8) (hk : k < 3) (hb : s / 2 ^ k % 2 = 1) (hd : 30 ≤ T p k) (h0 : ∀ j, j < 3 → 0 ≤ T p j) : ∀ {ts : List (List Int)}, (∀ t ∈ ts, VT t) → suS ts (rz p (s - 2 ^ k)) ≤ suS ts (rz p s)
  | [], _ => Int.le_refl _
  | t :: ts, hv => by
    have h1 := su_dear (hv t (by simp)) hs hk hb hd h0
    have h2 := suS_dear hs hk hb hd h0 (ts := ts) (fun u hu => hv u (by simp [hu]))
    simp only [suS]
    omega
theorem lo_dear {ts : List (List Int)} {p : List Int} (hv : ∀ t ∈ ts, VT t) {s k : Nat} (hs : s < 8) (hk : k < 3) (hb : s / 2 ^ k % 2 = 1) (hd : 30 ≤ T p k) (h0 : ∀ j, j < 3 → 0 ≤ T p j) : lo ts (rz p (s - 2 ^ k)) < lo ts (rz p s) := by
  have h1 := suS_dear hs hk hb hd h0 hv
  have h2 : pr (rz p (s - 2 ^ k)) 7 + 1 = pr (rz p s) 7 := by
    have hks : s - 2 ^ k < 8 := Nat.lt_of_le_of_lt (Nat.sub_le _ _) hs
    rw [pr_rz p hks (by omega), pr_rz p hs (by omega)]
    rcases nat3 hk with rfl | rfl | rfl <;> rcases nat8 hs with rfl | rfl | rfl | rfl | rfl | rfl | rfl | rfl <;> first | (exfalso; revert hb; decide) | (simp at * ; try omega)
  unfold lo
  omega

/-- How many things a set has. -/
def sz (s : Nat) : Nat := s % 2 + s / 2 % 2 + s / 4 % 2
/-- The steepest set of those below k. -/
def stTo (g : Nat → Int) : Nat → Nat
  | 0 => 0
  | k + 1 => if g k < g (stTo g k) ∨ (g k = g (stTo g k) ∧ 0 < stTo g k ∧ sz k < sz (stTo g k)) then k else stTo g k
theorem stTo_lt (g : Nat → Int) : ∀ {k : Nat}, 1 ≤ k → stTo g k < k
  | 1, _ => by simp [stTo]
  | k + 2, _ => by
    have := stTo_lt g (k := k + 1) (by omega)
    rw [stTo]
    split <;> omega
theorem stTo_le (g : Nat → Int) : ∀ {k s : Nat}, s < k → g (stTo g k) ≤ g s
  | 0, s, h => absurd h (by omega)
  | k + 1, s, h => by
    rw [stTo]
    have ih : ∀ s, s < k → g (stTo g k) ≤ g s := fun s hs => stTo_le g hs
    split
    · rename_i hc
      rcases Nat.lt_or_ge s k with h1 | h1
      · have := ih s h1; omega
      · obtain rfl : s = k := by omega
        exact Int.le_refl _
    · rename_i hc
      rcases Nat.lt_or_ge s k with h1 | h1
      · exact ih s h1
      · obtain rfl : s = k := by omega
        rcases Nat.eq_zero_or_pos s with rfl | h2
        · exact Int.le_refl _
        · omega
/-- It lessens, if it is not none. -/
theorem stTo_down (g : Nat → Int) : ∀ {k : Nat}, stTo g k ≠ 0 → g (stTo g k) < g 0
  | 0, h => absurd rfl h
  | k + 1, h => by
    rw [stTo] at h ⊢
    split
    · rename_i hc
      rw [if_pos hc] at h
      rcases Nat.eq_zero_or_pos (stTo g k) with h1 | h1
      · rw [h1] at hc; omega
      · have := stTo_down g (k := k) (by omega)
        omega
    · rename_i hc
      rw [if_neg hc] at h
      exact stTo_down g h
/-- The set by which the load becomes least. -/
def st (ts : List (List Int)) (p : List Int) : Nat := stTo (fun s => lo ts (rz p s)) 8
theorem st_lt (ts : List (List Int)) (p : List Int) : st ts p < 8 := stTo_lt _ (by omega)
theorem st_down {ts : List (List Int)} {p : List Int} (hp : p.length = 3) (h : st ts p ≠ 0) : lo ts (rz p (st ts p)) < lo ts p := by
  have h1 := stTo_down (fun s => lo ts (rz p s)) (k := 8) h
  have h2 : lo ts (rz p (st ts p)) < lo ts (rz p 0) := h1
  rw [rz_zero hp] at h2
  exact h2
/-- No price climbs beyond 30. -/
theorem st_low {ts : List (List Int)} {p : List Int} (hv : ∀ t ∈ ts, VT t) (hp : Lw p) : Lw (rz p (st ts p)) := by
  have hs := st_lt ts p
  have hb : ∀ k, k < 3 → st ts p / 2 ^ k % 2 = 1 → T p k < 30 := fun k hk h1 => by
    rcases Int.lt_or_le (T p k) 30 with h | h
    · exact h
    · have h2 := lo_dear hv hs hk h1 h (fun j hj => (hp.2 j hj).1)
      have h3 : lo ts (rz p (st ts p)) ≤ lo ts (rz p (st ts p - 2 ^ k)) := stTo_le (fun s => lo ts (rz p s)) (k := 8) (Nat.lt_of_le_of_lt (Nat.sub_le _ _) hs)
      omega
  refine ⟨rfl, fun k hk => ?_⟩
  have b0 := hb 0 (by omega)
  have b1 := hb 1 (by omega)
  have b2 := hb 2 (by omega)
  have c0 := hp.2 0 (by omega)
  have c1 := hp.2 1 (by omega)
  have c2 := hp.2 2 (by omega)
  simp at b0 b1 b2
  rcases nat3 hk with rfl | rfl | rfl
  · rw [rz_T0]; omega
  · rw [rz_T1]; omega
  · rw [rz_T2]; omega

/-- Where the climb from prices ends, and after how many steps. -/
def cl (ts : List (List Int)) : Nat → List Int → List Int × Nat
  | 0, p => (p, 0)
  | f + 1, p => if st ts p = 0 then (p, 0) else ((cl ts f (rz p (st ts p))).1, (cl ts f (rz p (st ts p))).2 + 1)
theorem lo_nonneg {ts : List (List Int)} {p : List Int} (hv : ∀ t ∈ ts, VT t) (hp : VP p) : 0 ≤ lo ts p := by
  have h1 := (suS_bd hv hp).1
  have h2 := (hp.bd (s := 7) (by omega)).1
  unfold lo; omega
theorem st_zero {ts : List (List Int)} {p : List Int} (hv : ∀ t ∈ ts, VT t) (hp : Lw p) (h : lo ts p ≤ 0) : st ts p = 0 := by
  rcases Nat.eq_zero_or_pos (st ts p) with h1 | h1
  · exact h1
  · have h2 := st_down hp.1 (ts := ts) (by omega)
    have h3 := lo_nonneg hv (hp.rz (st ts p))
    omega
theorem cl_ext {ts : List (List Int)} (hv : ∀ t ∈ ts, VT t) : ∀ (f g : Nat) {p : List Int}, Lw p → lo ts p ≤ f → lo ts p ≤ g → cl ts f p = cl ts g p
  | 0, 0, _, _, _, _ => rfl
  | 0, g + 1, p, hp, h1, _ => by simp [cl, st_zero hv hp h1]
  | f + 1, 0, p, hp, _, h2 => by simp [cl, st_zero hv hp h2]
  | f + 1, g + 1, p, hp, h1, h2 => by
    rw [cl, cl]
    by_cases h : st ts p = 0
    · rw [if_pos h, if_pos h]
    · rw [if_neg h, if_neg h]
      have h3 := st_down hp.1 h
      rw [cl_ext hv f g (st_low hv hp) (by omega) (by omega)]
/-- The climb. -/
def clb (ts : List (List Int)) (p : List Int) : List Int × Nat := cl ts (lo ts p).toNat p
theorem clb_end {ts : List (List Int)} {p : List Int} (h : st ts p = 0) : clb ts p = (p, 0) := by
  unfold clb
  cases (lo ts p).toNat with
  | zero => rfl
  | succ f => simp [cl, h]
theorem clb_step {ts : List (List Int)} {p : List Int} (hv : ∀ t ∈ ts, VT t) (hp : Lw p) (h : st ts p ≠ 0) : clb ts p = ((clb ts (rz p (st ts p))).1, (clb ts (rz p (st ts p))).2 + 1) := by
  have h1 := st_down hp.1 h
  have h2 := lo_nonneg hv (hp.rz (st ts p))
  have h3 : lo ts p ≤ ((lo ts p).toNat - 1 + 1 : Nat) := by omega
  have h4 : clb ts p = cl ts ((lo ts p).toNat - 1 + 1) p := cl_ext hv _ _ hp (by omega) h3
  have h5 : clb ts (rz p (st ts p)) = cl ts ((lo ts p).toNat - 1) (rz p (st ts p)) := cl_ext hv _ _ (st_low hv hp) (by omega) (by omega)
  rw [h4, cl, if_neg h, h5]

end Go.Proofs.Ytfjncipekjnbjaa

/-
  Chapter 7: raised prices and the steepest set by the model.
-/
namespace Go.Proofs.Ytfjncipekjnbjaa
open Go.RowKit

theorem wp_onceC {P : Program} {c : Code} {K : Act → World → Prop} {n : Nat} {Q : Exit → Act → World → Prop} {a : Act} {w : World} {a0 : Act} {w0 : World} (h : ∀ K1 : Act → World → Prop, K1 a0 w0 → c.wp P (Exit.inBlock n (Exit.then K1 Q)) a w) (hk : K a0 w0) : c.wp P (Exit.inBlock n (Exit.then K Q)) a w := h K hk
/-- The first k things are raised. -/
def rzTo (p : List Int) (s k : Nat) : List Int := [T p 0 + (if 0 < k then ((s % 2 : Nat) : Int) else 0), T p 1 + (if 1 < k then ((s / 2 % 2 : Nat) : Int) else 0), T p 2 + (if 2 < k then ((s / 4 % 2 : Nat) : Int) else 0)]
theorem rzTo_zero {p : List Int} (s : Nat) (h : p.length = 3) : rzTo p s 0 = p := by
  match p, h with
  | [a, b, c], _ => simp [rzTo, T]
theorem rzTo_end (p : List Int) (s : Nat) : rzTo p s 3 = rz p s := by simp [rzTo, rz]
theorem rzTo_len (p : List Int) (s k : Nat) : (rzTo p s k).length = 3 := rfl
theorem rzTo_at {p : List Int} {s k : Nat} (hk : k < 3) : (rzTo p s k)[k]? = some (T p k) := by
  rcases nat3 hk with rfl | rfl | rfl <;> simp [rzTo]
theorem rzTo_step {p : List Int} {s k : Nat} (hk : k < 3) : (rzTo p s k).set k (T p k + ((s / 2 ^ k % 2 : Nat) : Int)) = rzTo p s (k + 1) := by
  rcases nat3 hk with rfl | rfl | rfl <;> simp [rzTo]

set_option maxHeartbeats 1000000 in
theorem Sraised_any (A : Option Addr) (c s : Nat) (p : List Int) (w : World) (h : Rd w A c p) (hp : VP p) (hs : s < 8) :
    Calls Try.prog 109 #[.slice A p.length c, .int .i64 (s : Int)] w (OwnIs w (rz p s)) := by
  have h3 := hp.1
  have hb0 := (Below.refl w.heap.size w).alloc (Nat.le_refl _) (.cells #[] 3)
  have h1 := h.below hb0
  have HV := Lib.hid hp.2
  have HZ := Lib.hid (rzTo_zero s h3)
  clear h hp
  go_enter Try.func109, Try.ntmps109
  go_wp2_with (at_builtin; refine wpList_clone rfl _ _ rfl w.heap.size w.heap.size rfl (own_empty w) A c p rfl h1 (by omega) hb0.size ?_; intro g c1 w1 ho hb1)
  have B1 := hb0.trans hb1
  have H3 := Lib.hid h3
  have ho0 : Hid (Own w1 w.heap.size (some ⟨g, 0, none⟩) c1 (rzTo p s 0)) := Lib.hid (by rw [HZ.out]; exact ho)
  clear hb0 hb1 h1 ho h3
  go_loopw [6] (fun i wr => ∃ k : Nat, k ≤ 3 ∧ i = .int .i64 (k : Int) ∧ Hid (Own wr w.heap.size (some ⟨g, 0, none⟩) c1 (rzTo p s k)) ∧ Below w.heap.size w wr) (fun i _ => 3 - (intOf i).toNat)
  case atStart => exact ⟨0, by omega, rfl, ho0, B1⟩
  case round =>
    obtain ⟨k, hk, rfl, HO, hb⟩ := hrel
    by_cases hlt : k < 3
    · have hc := HO.out.cell (rzTo_at (p := p) (s := s) hlt)
      have hf := HO.out.free k
      have hx := HV.out k hlt
      have HS : Hid (Own (wr.setCell ⟨g, k, none⟩ (.int .i64 (T p k + ((s / 2 ^ k % 2 : Nat) : Int)))) w.heap.size (some ⟨g, 0, none⟩) c1 (rzTo p s (k + 1))) := Lib.hid (by rw [← rzTo_step hlt]; exact HO.out.set_ k _)
      have HB2 := Lib.hid (hb.setCell HO.out.ge (p := ⟨g, k, none⟩) (.int .i64 (T p k + ((s / 2 ^ k % 2 : Nat) : Int))))
      have HB := Lib.hid (fun w' => Sbit_any s k hs hlt w')
      have hbl : s / 2 ^ k % 2 < 2 := Nat.mod_lt _ (by omega)
      obtain ⟨X, hX⟩ : ∃ X, X = s / 2 ^ k % 2 := ⟨_, rfl⟩
      rw [← hX] at HS HB2 HB hbl
      obtain ⟨V, hV⟩ : ∃ V, V = T p k := ⟨_, rfl⟩
      rw [← hV] at HS HB2 hc hx
      have e1 : IntKind.i64.wrap (V + (X : Int)) = V + (X : Int) := IntWalk.i64_in _ (by omega)
      have hk3 : (k : Int) < 3 := by omega
      have hk0 : (0 : Int) ≤ (k : Int) := by omega
      have hk1 : k + 1 ≤ 3 := hlt
      clear hX hV hx hbl hlt
      go_wp2_with fail
      refine wp_onceC (a0 := ?a0) (w0 := ?w0) (fun K1 h1 => ?first) ?rest
      case first =>
        go_region_with (go_at_call 117; refine (HB.out _).mono ?_; rintro e w6 ⟨rfl, rfl⟩)
        all_goals exact h1
      case rest =>
        go_wp2
        exact ⟨⟨k + 1, hk1, by go_num, Lib.hid (HS.out.drewN 1), HB2.out.drew⟩, by simp only [intOf]; omega⟩
    · obtain rfl : k = 3 := by omega
      go_wp2
      go_ret
      exact ⟨some ⟨g, 0, none⟩, c1, rfl, by rw [← rzTo_end]; exact HO.out, hb⟩

theorem Sraised3_any (A : Option Addr) (c s : Nat) (p : List Int) (w : World) (h : Rd w A c p) (hp : VP p) (hs : s < 8) :
    Calls Try.prog 109 #[.slice A 3 c, .int .i64 (s : Int)] w (OwnIs w (rz p s)) := by
  have := Sraised_any A c s p w h hp hs
  rwa [hp.1] at this

/-- How many of the first k things a set has. -/
def szTo (s : Nat) : Nat → Nat
  | 0 => 0
  | k + 1 => szTo s k + s / 2 ^ k % 2
theorem szTo_le (s : Nat) : ∀ k, szTo s k ≤ k
  | 0 => Nat.le_refl _
  | k + 1 => by have := szTo_le s k; have := Nat.mod_lt (s / 2 ^ k) (show 0 < 2 by omega); simp only [szTo]; omega
theorem szTo_end (s : Nat) : szTo s 3 = sz s := by simp [szTo, sz]

set_option maxHeartbeats 800000 in
theorem SsizeOf_any (s : Nat) (hs : s < 8) (w : World) :
    Calls Try.prog 136 #[.int .i64 (s : Int)] w fun e w' => e = .returned (.int .i64 ((sz s : Nat) : Int)) ∧ ∃ n, w' = w.drewN n := by
  go_enter Try.func136, Try.ntmps136
  go_wp2_with fail
  go_loopw [3, 4] (fun o i wr => ∃ k m : Nat, k ≤ 3 ∧ o = .int .i64 ((szTo s k : Nat) : Int) ∧ i = .int .i64 (k : Int) ∧ wr = w.drewN m) (fun _ i _ => 3 - (intOf i).toNat)
  case atStart => exact ⟨0, 0, by omega, rfl, rfl, rfl⟩
  case round =>
    obtain ⟨k, m, hk, rfl, rfl, rfl⟩ := hrel
    by_cases hlt : k < 3
    · have HBit := Lib.hid (Sbit_any s k hs hlt (w.drewN m))
      have HS : Hid (szTo s (k + 1) = szTo s k + s / 2 ^ k % 2) := Lib.hid rfl
      have hb1 := szTo_le s k
      have hbl : s / 2 ^ k % 2 < 2 := Nat.mod_lt _ (by omega)
      obtain ⟨X, hX⟩ : ∃ X, X = s / 2 ^ k % 2 := ⟨_, rfl⟩
      rw [← hX] at HS HBit hbl
      obtain ⟨V, hV⟩ : ∃ V, V = szTo s k := ⟨_, rfl⟩
      rw [← hV] at HS hb1 ⊢
      have e1 : IntKind.i64.wrap ((V : Int) + (X : Int)) = ((V + X : Nat) : Int) := by rw [IntWalk.i64_in _ (by omega)]; omega
      have hk3 : (k : Int) < 3 := by omega
      have hk1 : k + 1 ≤ 3 := hlt
      clear hX hV hbl hlt hb1
      go_wp2_with fail
      refine HBit.out.mono ?_
      rintro e w5 ⟨rfl, rfl⟩
      go_wp2
      go_roundw
      case rel => exact ⟨k + 1, _, hk1, by rw [HS.out, Int.natCast_add], by go_num, rfl⟩
      case measure => simp [intOf]; omega
    · obtain rfl : k = 3 := by omega
      go_wp2
      go_ret
      exact ⟨by rw [szTo_end]; rfl, _, rfl⟩

end Go.Proofs.Ytfjncipekjnbjaa

/-
  Chapter 7: the steepest set by the model.
-/
namespace Go.Proofs.Ytfjncipekjnbjaa
open Go.RowKit

theorem SallL_any (w : World) : Calls Try.prog 113 #[] w fun e w' => e = .returned (.int .i64 7) ∧ w = w' := by
  have HP : Hid (∀ w1, Calls Try.prog 88 #[.int .i64 3] w1 fun e w' => e = .returned (.int .i64 8) ∧ w1 = w') := Lib.hid (fun w1 => Spower_any 3 (by omega) w1)
  go_enter Try.func113, Try.ntmps113
  go_wp2_with (go_at_call 88; refine (HP.out _).mono ?_; rintro e w1 ⟨rfl, rfl⟩)
  go_ret
  exact ⟨rfl, rfl⟩

theorem stTo_up {G : Nat → Int} {k : Nat} (h : G k < G (stTo G k) ∨ (G k = G (stTo G k) ∧ 0 < stTo G k ∧ sz k < sz (stTo G k))) : stTo G (k + 1) = k := by rw [stTo, if_pos h]
theorem stTo_as {G : Nat → Int} {k : Nat} (h : ¬ (G k < G (stTo G k) ∨ (G k = G (stTo G k) ∧ 0 < stTo G k ∧ sz k < sz (stTo G k)))) : stTo G (k + 1) = stTo G k := by rw [stTo, if_neg h]

set_option maxRecDepth 100000 in
set_option maxHeartbeats 2000000 in
theorem Ssteepest_any (A B : Option Addr) (c d n : Nat) (ts : List (List Int)) (p : List Int) (w : World) (h : RdR w A c ts) (g : Rd w B d p) (hv : ∀ t ∈ ts, VT t) (hn : ts.length = n) (h4 : n ≤ 4) (hp : Lw p) :
    Calls Try.prog 108 #[.slice A n c, .slice B 3 d] w fun e w' => e = .returned (.int .i64 ((st ts p : Nat) : Int)) ∧ Below w.heap.size w w' := by
  have HL0 := Lib.hid (Sload_any A B c d n ts p w hn h g hv h4 hp.vp)
  have HRA := Lib.hid (fun W (gW : Rd W B d p) (s : Nat) (hs : s < 8) => Sraised3_any B d s p W gW hp.vp hs)
  have HLO := Lib.hid (fun W (hW : RdR W A c ts) (C : Option Addr) (f s : Nat) (r : Rd W C f (rz p s)) => Sload_any A C c f n ts (rz p s) W hn hW r hv h4 (hp.rz s))
  have HZ : Hid (lo ts p = lo ts (rz p 0)) := Lib.hid (by rw [rz_zero hp.1])
  have HST : Hid (st ts p = stTo (fun s => lo ts (rz p s)) 8) := Lib.hid rfl
  obtain ⟨G, hG⟩ : ∃ G : Nat → Int, G = fun s => lo ts (rz p s) := ⟨_, rfl⟩
  have HG : Hid (∀ s, lo ts (rz p s) = G s) := Lib.hid (fun s => by rw [hG])
  rw [← hG] at HST
  clear hv hn hp hG
  go_enter Try.func108, Try.ntmps108
  go_wp2_with fail
  refine HL0.out.mono ?_
  rintro e w1 ⟨rfl, n1, rfl⟩
  go_wp2_with fail
  go_loopw [5, 6, 7] (fun av mv iv wr => ∃ k : Nat, 1 ≤ k ∧ k ≤ 8 ∧ av = .int .i64 ((stTo G k : Nat) : Int) ∧ mv = .int .i64 (G (stTo G k)) ∧ iv = .int .i64 (k : Int) ∧ Below w.heap.size w wr) (fun _ _ iv _ => 8 - (intOf iv).toNat)
  case atStart => exact ⟨1, by omega, by omega, by simp [stTo], by rw [HZ.out, HG.out]; simp [stTo], rfl, below_drewN' (Below.refl _ _) n1⟩
  case round =>
    obtain ⟨k, hk0, hk, rfl, rfl, rfl, hb⟩ := hrel
    by_cases hlt : k < 8
    · have hk7 : (k : Int) ≤ 7 := by omega
      have hk1 : k + 1 ≤ 8 := hlt
      have hal := stTo_lt G (k := k) hk0
      have HUP := Lib.hid (stTo_up (G := G) (k := k))
      have HAS := Lib.hid (stTo_as (G := G) (k := k))
      have HR1 := Lib.hid (HRA.out wr (g.below hb) k hlt)
      have HGk := Lib.hid (HG.out k)
      obtain ⟨a, ha⟩ : ∃ a, a = stTo G k := ⟨_, rfl⟩
      rw [← ha] at HUP HAS hal ⊢
      have ha8 : a < 8 := by omega
      have hrw := h.below hb
      have hsz := hb.size
      have HSa := Lib.hid (fun w' => SsizeOf_any a ha8 w')
      have HSk := Lib.hid (fun w' => SsizeOf_any k hlt w')
      obtain ⟨M, hM⟩ : ∃ M, M = G a := ⟨_, rfl⟩
      obtain ⟨X, hX⟩ : ∃ X, X = G k := ⟨_, rfl⟩
      have HMM := Lib.hid hM
      have HXX := Lib.hid hX
      rw [← hM] at HUP HAS ⊢
      rw [← hX] at HUP HAS HGk
      obtain ⟨R, hR⟩ : ∃ R, R = sz a := ⟨_, rfl⟩
      obtain ⟨S, hS⟩ : ∃ S, S = sz k := ⟨_, rfl⟩
      rw [← hR, ← hS] at HUP HAS
      rw [← hR] at HSa
      rw [← hS] at HSk
      clear ha hM hX hlt hR hS
      go_wp2_with fail
      refine (SallL_any _).mono ?_
      rintro e w2 ⟨rfl, rfl⟩
      go_wp2_with fail
      refine HR1.out.mono ?_
      rintro e w3 ⟨A3, c3, rfl, o3, b3⟩
      have HL3 := Lib.hid (HLO.out w3 (hrw.below b3) A3 c3 k o3.rd)
      rw [HGk.out] at HL3
      rw [rz_len]
      have hb3 := hb.trans (b3.mono hsz)
      clear HR1 o3 b3
      go_wp2_with fail
      refine HL3.out.mono ?_
      rintro e w4 ⟨rfl, m4, rfl⟩
      have hb4 := below_drewN' hb3 m4
      clear HL3
      by_cases h1 : X < M
      · have HE := Lib.hid (HUP.out (.inl h1))
        have hq : decide (X < M) = true := by simp [h1]
        clear h1 HUP HAS
        go_wp2
        go_roundw
        case rel => exact ⟨k + 1, by omega, hk1, by rw [HE.out], by rw [HE.out, ← HXX.out], by go_num, hb4⟩
        case measure => simp [intOf]; omega
      · have hq : decide (X < M) = false := by simpa using h1
        by_cases h2 : X = M
        · have hq2 : (X == M) = true := by simp [h2]
          by_cases h3 : a = 0
          · have HE := Lib.hid (HAS.out (by omega))
            subst h3
            clear h1 h2 HUP HAS
            go_wp2
            go_roundw
            case rel => exact ⟨k + 1, by omega, hk1, by rw [HE.out]; rfl, by rw [HE.out, ← HMM.out], by go_num, hb4⟩
            case measure => simp [intOf]; omega
          · have ha0 : (0 : Int) < (a : Int) := by omega
            have hap : 0 < a := by omega
            by_cases h4 : S < R
            · have HE := Lib.hid (HUP.out (.inr ⟨h2, hap, h4⟩))
              have hq4 : (S : Int) < (R : Int) := by omega
              clear h1 h2 h3 h4 HUP HAS
              go_wp2_with fail
              refine (HSk.out _).mono ?_
              rintro e w5 ⟨rfl, m5, rfl⟩
              go_wp2_with fail
              refine (HSa.out _).mono ?_
              rintro e w6 ⟨rfl, m6, rfl⟩
              have hb6 := below_drewN' hb3 (m4 + m5 + m6)
              go_wp2
              go_roundw
              case rel => exact ⟨k + 1, by omega, hk1, by rw [HE.out], by rw [HE.out, ← HXX.out], by go_num, hb6⟩
              case measure => simp [intOf]; omega
            · have HE := Lib.hid (HAS.out (by omega))
              have hq4 : ¬ (S : Int) < (R : Int) := by omega
              clear h1 h2 h3 h4 HUP HAS
              go_wp2_with fail
              refine (HSk.out _).mono ?_
              rintro e w5 ⟨rfl, m5, rfl⟩
              go_wp2_with fail
              refine (HSa.out _).mono ?_
              rintro e w6 ⟨rfl, m6, rfl⟩
              have hb6 := below_drewN' hb3 (m4 + m5 + m6)
              go_wp2
              go_roundw
              case rel => exact ⟨k + 1, by omega, hk1, by rw [HE.out], by rw [HE.out, ← HMM.out], by go_num, hb6⟩
              case measure => simp [intOf]; omega
        · have HE := Lib.hid (HAS.out (by omega))
          have hq2 : (X == M) = false := by simpa using h2
          clear h1 h2 HUP HAS
          go_wp2
          go_roundw
          case rel => exact ⟨k + 1, by omega, hk1, by rw [HE.out], by rw [HE.out, ← HMM.out], by go_num, hb4⟩
          case measure => simp [intOf]; omega
    · obtain rfl : k = 8 := by omega
      go_wp2_with fail
      refine (SallL_any _).mono ?_
      rintro e w2 ⟨rfl, rfl⟩
      go_wp2
      go_ret
      exact ⟨by rw [HST.out]; rfl, hb⟩

end Go.Proofs.Ytfjncipekjnbjaa

/-
  Chapter 7: ClimbPrices by the model.
-/
namespace Go.Proofs.Ytfjncipekjnbjaa
open Go.RowKit

theorem cl_le (ts : List (List Int)) : ∀ (f : Nat) (p : List Int), (cl ts f p).2 ≤ f
  | 0, p => Nat.le_refl _
  | f + 1, p => by
    rw [cl]
    split
    · exact Nat.zero_le _
    · have := cl_le ts f (rz p (st ts p)); show (cl ts f (rz p (st ts p))).2 + 1 ≤ f + 1; omega
theorem lwP_zero : Lw [0, 0, 0] := ⟨rfl, fun k hk => by rcases nat3 hk with rfl | rfl | rfl <;> decide⟩
theorem clb_le {ts : List (List Int)} (hv : ∀ t ∈ ts, VT t) (h4 : ts.length ≤ 4) : (clb ts [0, 0, 0]).2 ≤ 120 := by
  have h1 := cl_le ts (lo ts [0, 0, 0]).toNat [0, 0, 0]
  have h2 := (suS_bd (ts := ts) hv lwP_zero.vp).2
  have h3 : lo ts [0, 0, 0] = pr [0, 0, 0] 7 + suS ts [0, 0, 0] := rfl
  have h5 : pr [0, 0, 0] 7 = 0 := by simp [pr, prTo, T]
  have h6 : (clb ts [0, 0, 0]).2 = (cl ts (lo ts [0, 0, 0]).toNat [0, 0, 0]).2 := rfl
  omega
/-- Where the climb ends. -/
noncomputable def cpL (ts : List (List Int)) : List Int := @ite _ (VTs ts) (Classical.propDecidable _) (clb ts [0, 0, 0]).1 []
noncomputable def cpS (ts : List (List Int)) : Int := @ite _ (VTs ts) (Classical.propDecidable _) (((clb ts [0, 0, 0]).2 : Nat) : Int) (-1)
theorem cpL_no {ts : List (List Int)} (h : vtsB ts = false) : cpL ts = [] := if_neg (fun hv => by rw [vtsB_true hv] at h; cases h)
theorem cpS_no {ts : List (List Int)} (h : vtsB ts = false) : cpS ts = -1 := if_neg (fun hv => by rw [vtsB_true hv] at h; cases h)
theorem cpL_yes {ts : List (List Int)} (h : VTs ts) : cpL ts = (clb ts [0, 0, 0]).1 := if_pos h
theorem cpS_yes {ts : List (List Int)} (h : VTs ts) : cpS ts = (((clb ts [0, 0, 0]).2 : Nat) : Int) := if_pos h
/-- The climb from q, after k steps, ends where it does. -/
def OnWay (ts : List (List Int)) (q : List Int) (k : Nat) : Prop := Lw q ∧ (clb ts q).1 = (clb ts [0, 0, 0]).1 ∧ (clb ts q).2 + k = (clb ts [0, 0, 0]).2
theorem OnWay.start (ts : List (List Int)) : OnWay ts [0, 0, 0] 0 := ⟨lwP_zero, rfl, rfl⟩
theorem OnWay.next {ts : List (List Int)} {q : List Int} {k : Nat} (hv : ∀ t ∈ ts, VT t) (h : OnWay ts q k) (hs : st ts q ≠ 0) : OnWay ts (rz q (st ts q)) (k + 1) ∧ k + 1 ≤ (clb ts [0, 0, 0]).2 := by
  obtain ⟨h1, h2, h3⟩ := h
  have h4 := clb_step hv h1 hs
  rw [h4] at h2 h3
  have h5 : (clb ts (rz q (st ts q))).2 + 1 + k = (clb ts [0, 0, 0]).2 := h3
  exact ⟨⟨st_low hv h1, h2, by omega⟩, by omega⟩
theorem OnWay.last {ts : List (List Int)} {q : List Int} {k : Nat} (h : OnWay ts q k) (hs : st ts q = 0) : q = (clb ts [0, 0, 0]).1 ∧ k = (clb ts [0, 0, 0]).2 := by
  obtain ⟨_, h2, h3⟩ := h
  rw [clb_end hs] at h2 h3
  have h5 : 0 + k = (clb ts [0, 0, 0]).2 := h3
  exact ⟨h2, by omega⟩
theorem cpL_len (ts : List (List Int)) : (cpL ts).length ≤ 3 := by
  by_cases hv : VTs ts
  · rw [cpL_yes hv]
    suffices h : ∀ f p, p.length = 3 → (cl ts f p).1.length = 3 by
      have := h (lo ts [0, 0, 0]).toNat [0, 0, 0] rfl
      unfold clb; omega
    intro f
    induction f with
    | zero => intro p hp; exact hp
    | succ f ih =>
      intro p hp
      rw [cl]
      split
      · exact hp
      · exact ih _ rfl
  · rw [show cpL ts = [] from if_neg hv]; simp

/-- What ClimbPrices hands back. -/
def ClIs (w : World) (ts : List (List Int)) (e : Ending) (w' : World) : Prop :=
  ∃ A c, e = .returned (.tuple #[.slice A (cpL ts).length c, .int .i64 (cpS ts)]) ∧ Own w' w.heap.size A c (cpL ts) ∧ Below w.heap.size w w'

set_option maxRecDepth 100000 in
set_option maxHeartbeats 2000000 in
theorem SClimbPrices_any (A : Option Addr) (c : Nat) (ts : List (List Int)) (w : World) (h : RdR w A c ts) (hl : ts.length ≤ 1099511627776) (hl2 : ∀ r ∈ ts, r.length ≤ 1099511627776) :
    Calls Try.prog 50 #[.slice A ts.length c] w (ClIs w ts) := by
  have HV := Lib.hid (SvalidTables_any A c ts w h hl hl2)
  rcases hv : vtsB ts with _ | _
  · have HE1 := Lib.hid (cpL_no hv)
    have HE2 := Lib.hid (cpS_no hv)
    rw [hv] at HV
    clear hv
    go_enter Try.func50, Try.ntmps50
    go_wp2_with fail
    refine HV.out.mono ?_
    rintro e w1 ⟨rfl, n, rfl⟩
    go_wp2
    go_ret2
    exact ⟨none, 0, by rw [HE1.out, HE2.out]; rfl, by rw [HE1.out]; exact own_none _ _, below_drewN' (Below.refl _ _) n⟩
  · have hvt := vtsB_iff.1 hv
    have HE1 := Lib.hid (cpL_yes hvt)
    have HE2 := Lib.hid (cpS_yes hvt)
    have hN := clb_le hvt.2 hvt.1.2
    have HNX := Lib.hid (fun (q : List Int) (k : Nat) (hw : OnWay ts q k) (hs : st ts q ≠ 0) => hw.next hvt.2 hs)
    have HSS := Lib.hid (fun W (h : RdR W A c ts) (B : Option Addr) (d : Nat) (q : List Int) (g : Rd W B d q) (hq : Lw q) => Ssteepest_any A B c d ts.length ts q W h g hvt.2 rfl hvt.1.2 hq)
    rw [hv] at HV
    obtain ⟨n, hn⟩ : ∃ n, n = ts.length := ⟨_, rfl⟩
    rw [← hn] at HV HSS ⊢
    obtain ⟨N, hNN⟩ : ∃ N, N = (clb ts [0, 0, 0]).2 := ⟨_, rfl⟩
    have HNN := Lib.hid hNN
    rw [← hNN] at hN
    clear hv hvt hn hNN
    go_enter Try.func50, Try.ntmps50
    go_wp2_with fail
    refine HV.out.mono ?_
    rintro e w1 ⟨rfl, n1, rfl⟩
    have hr1 := h.drewN n1
    have b0 := below_drewN' (Below.refl w.heap.size w) n1
    obtain ⟨w1, hw1⟩ : ∃ w1, w1 = w.drewN n1 := ⟨_, rfl⟩
    have hsw : w.heap.size = w1.heap.size := by rw [hw1]; rfl
    rw [← hw1] at hr1 b0 ⊢
    clear hw1
    go_wp2_with (at_make; refine wpList_make_ints rfl _ _ rfl w1.heap.size 3 rfl rfl (by omega) (Nat.le_refl _) ?_; intro w2 o2 b2)
    have hr2 := h.below (b0.trans (b2.mono b0.size))
    have B2 := b0.trans (b2.mono b0.size)
    have O2 : Own w2 w.heap.size (some ⟨w1.heap.size, 0, none⟩) 3 [0, 0, 0] := o2.base b0.size
    have HS2 := Lib.hid (HSS.out w2 hr2 (some ⟨w1.heap.size, 0, none⟩) 3 [0, 0, 0] O2.rd lwP_zero)
    have HO2 := Lib.hid O2
    clear o2 b2 b0 hr1 hsw O2 hr2
    refine HS2.out.mono ?_
    rintro e w3 ⟨rfl, b3⟩
    have HO3 := Lib.hid (HO2.out.below b3)
    have B3 := B2.trans (b3.mono B2.size)
    clear HO2 HS2 b3 B2
    go_wp2_with fail
    go_loopw [4, 5, 6] (fun pv nv sv wr => ∃ (q : List Int) (k : Nat) (C : Option Addr) (d : Nat), pv = .slice C 3 d ∧ nv = .int .i64 (k : Int) ∧ sv = .int .i64 ((st ts q : Nat) : Int) ∧ k ≤ N ∧ Hid (OnWay ts q k) ∧ Hid (Own wr w.heap.size C d q) ∧ Below w.heap.size w wr) (fun _ nv sv _ => (N + 1 - (intOf nv).toNat))
    case atStart => exact ⟨[0, 0, 0], 0, _, _, rfl, rfl, rfl, by omega, Lib.hid (OnWay.start ts), HO3, B3⟩
    case round =>
      clear HO3 B3
      obtain ⟨q, k, C, d, rfl, rfl, rfl, hk, HW, HO, hb⟩ := hrel
      by_cases hs : st ts q = 0
      · have hz := HW.out.last hs
        have HE3 : Hid (cpL ts = q) := Lib.hid (by rw [HE1.out]; exact hz.1.symm)
        have HE4 : Hid (cpS ts = (k : Int)) := Lib.hid (by rw [HE2.out, hz.2])
        have H3 := Lib.hid HW.out.1.1
        rw [hs]
        clear hz hs
        go_wp2
        go_ret2
        exact ⟨C, d, by rw [HE3.out, HE4.out, H3.out]; rfl, by rw [HE3.out]; exact HO.out, hb⟩
      · have hnx := HNX.out q k HW.out hs
        rw [← HNN.out] at hnx
        have HW1 := Lib.hid hnx.1
        have hk1 : k + 1 ≤ N := hnx.2
        have hs8 := st_lt ts q
        have HRA := Lib.hid (Sraised3_any C d (st ts q) q wr HO.out.rd HW.out.1.vp hs8)
        have hsz := hb.size
        obtain ⟨s, hS⟩ : ∃ s, s = st ts q := ⟨_, rfl⟩
        rw [← hS] at hs HW1 HRA ⊢
        have hs0 : (0 : Int) < (s : Int) := by omega
        clear hnx hS hs8 hs
        go_wp2_with fail
        refine HRA.out.mono ?_
        rintro e w4 ⟨C4, d4, rfl, o4, b4⟩
        have B4 := hb.trans (b4.mono hsz)
        have HO4 := Lib.hid (o4.base hsz)
        have HS4 := Lib.hid (HSS.out w4 (h.below B4) C4 d4 (rz q s) o4.rd HW1.out.1)
        rw [rz_len]
        clear o4 b4 HRA HO
        go_wp2_with fail
        refine HS4.out.mono ?_
        rintro e w5 ⟨rfl, b5⟩
        have HO5 := Lib.hid (HO4.out.below b5)
        have B5 := B4.trans (b5.mono B4.size)
        clear HO4 HS4 b5
        go_wp2
        go_roundw
        case rel => exact ⟨rz q s, k + 1, C4, d4, rfl, by go_num, rfl, hk1, HW1, HO5, B5⟩
        case measure => simp [intOf]; omega

end Go.Proofs.Ytfjncipekjnbjaa

/-
  Chapter 7: whether all bidders can be served, by the program.
-/
namespace Go.Proofs.Ytfjncipekjnbjaa
open Go.RowKit

/-- Whether each bidder can have one of the wanted sets. -/
def svA : List (List Int) → Nat → Nat → Bool
  | [], l, f => (l - (l &&& f)) == 0
  | d :: ds, l, f => d.any (fun s => ((s.toNat - (s.toNat &&& l)) == 0) && svA ds (l - (l &&& s.toNat)) f)
/-- What one of the sets tells. -/
def svO (ds : List (List Int)) (l f : Nat) (s : Int) : Bool := ((s.toNat - (s.toNat &&& l)) == 0) && svA ds (l - (l &&& s.toNat)) f
theorem svA_cons (d : List Int) (ds : List (List Int)) (l f : Nat) : svA (d :: ds) l f = d.any (svO ds l f) := rfl
def NoO (d : List Int) (ds : List (List Int)) (l f k : Nat) : Prop := (d.take k).any (svO ds l f) = false
theorem NoO.next {d : List Int} {ds : List (List Int)} {l f k : Nat} {s : Int} (h : NoO d ds l f k) (hs : d[k]? = some s) (hn : svO ds l f s = false) : NoO d ds l f (k + 1) := by
  unfold NoO at h ⊢
  rw [List.take_add_one, hs, List.any_append, h]
  simp [hn]
theorem NoO.all {d : List Int} {ds : List (List Int)} {l f : Nat} (h : NoO d ds l f d.length) : svA (d :: ds) l f = false := by
  unfold NoO at h
  rw [List.take_length] at h
  exact h
theorem svO_yes {d : List Int} {ds : List (List Int)} {l f k : Nat} {s : Int} (hs : d[k]? = some s) (h : svO ds l f s = true) : svA (d :: ds) l f = true := List.any_eq_true.2 ⟨s, List.mem_of_getElem? hs, h⟩

set_option maxRecDepth 100000 in
set_option maxHeartbeats 1600000 in
theorem servesAll_any : ∀ (ds : List (List Int)) (A : Option Addr) (c l f : Nat) (w : World), RdR w A c ds → (∀ d ∈ ds, d.length ≤ 8 ∧ ∀ x ∈ d, ∃ s : Nat, x = (s : Int) ∧ s < 8) → ds.length ≤ 4 → l < 8 → f < 8 →
    Calls Try.prog 98 #[.slice A ds.length c, .int .i64 (l : Int), .int .i64 (f : Int)] w fun e w' => e = .returned (.bool (svA ds l f)) ∧ ∃ n, w' = w.drewN n := by
  intro ds
  induction ds with
  | nil =>
    intro A c l f w h _ _ hl hf
    have e0 := andNot_nat hl hf
    obtain ⟨X, hX⟩ : ∃ X, X = l - (l &&& f) := ⟨_, rfl⟩
    have HE : Hid (svA [] l f = (X == 0)) := Lib.hid (by rw [hX]; rfl)
    rw [← hX] at e0
    have hq : ((X : Int) == 0) = (X == 0) := by rw [Bool.eq_iff_iff]; simp
    clear hX
    rcases hb : (X == 0) with _ | _
    · rw [hb] at hq
      go_enter Try.func98, Try.ntmps98
      go_wp2
      go_ret
      exact ⟨by rw [HE.out, hb]; rfl, 0, rfl⟩
    · rw [hb] at hq
      go_enter Try.func98, Try.ntmps98
      go_wp2
      go_ret
      exact ⟨by rw [HE.out, hb]; rfl, 0, rfl⟩
  | cons d ds ih =>
    intro A c l f w h hd hl4 hl hf
    have HIH := Lib.hid (fun (A : Option Addr) (c l : Nat) (w : World) (h : RdR w A c ds) (hl : l < 8) => ih A c l f w h (fun t ht => hd t (by simp [ht])) (by simp at hl4; omega) hl hf)
    clear ih
    obtain ⟨hd8, hds⟩ := hd d (by simp)
    have HDS := Lib.hid hds
    obtain ⟨b, off, hA, hcl, hrows⟩ := h.open_ (by simp)
    subst hA
    obtain ⟨A0, c0, hc0, hcap0, hrd0⟩ := hrows 0 d rfl
    rw [Nat.add_zero] at hc0
    have HRD0 := Lib.hid hrd0
    have HD := Lib.hid (fun (hc2 : 2 ≤ c) => (h.drop_ (c2 := c - 1) 1 (by simp; simp at hcl; omega) : RdR w (some ⟨b, off + 1, none⟩) (c - 1) ds))
    have HD1 := Lib.hid (fun (hc2 : c = 1) => show RdR w (some ⟨b, off, none⟩) 0 ds from by
      have : ds = [] := by have : ds.length = 0 := by simp at hcl; omega
                           exact List.eq_nil_of_length_eq_zero this
      rw [this]; exact ⟨by simp, .inl ⟨rfl, fun h => by cases h⟩⟩)
    have hc1 : 1 ≤ c := by simp at hcl; omega
    have hdl : ds.length ≤ 3 := by simp at hl4; omega
    clear hd hl4 hrows hcap0 hrd0 h hcl hds
    rw [show (d :: ds).length = ds.length + 1 from rfl]
    have hne : ((ds.length : Int) + 1 == 0) = false := by simp; omega
    have hl0 : (0 : Int) ≤ (l : Int) := by omega
    obtain ⟨LD, hLD⟩ : ∃ LD, LD = d.length := ⟨_, rfl⟩
    have HLD := Lib.hid hLD
    rw [← hLD] at hc0 hd8
    clear hLD
    go_enter Try.func98, Try.ntmps98
    go_wp2_with fail
    go_loopw [20] (fun iv wr => ∃ k m : Nat, k ≤ LD ∧ iv = .int .i64 (k : Int) ∧ wr = w.drewN m ∧ Hid (NoO d ds l f k)) (fun iv _ => LD - (intOf iv).toNat)
    case atStart => exact ⟨0, 0, by omega, rfl, rfl, Lib.hid (by simp [NoO])⟩
    case round =>
      obtain ⟨k, m, hk, rfl, rfl, HN⟩ := hrel
      by_cases hlt : k < LD
      · obtain ⟨b1, off1, x, rfl, _, hx, hcx⟩ := HRD0.out.at_ (k := k) (by rw [← HLD.out]; exact hlt)
        obtain ⟨s, rfl, hs8⟩ := HDS.out x (List.mem_of_getElem? hx.out)
        have e1 := andNot_nat hs8 hl
        have e2 := andNot_nat hl hs8
        have HNX := Lib.hid (fun (hn : svO ds l f (s : Int) = false) => HN.out.next hx.out hn)
        have HYE := Lib.hid (fun (hy : svO ds l f (s : Int) = true) => svO_yes hx.out hy)
        have HSO : Hid (svO ds l f (s : Int) = (((s - (s &&& l)) == 0) && svA ds (l - (l &&& s)) f)) := Lib.hid rfl
        have hr8 : l - (l &&& s) < 8 := Nat.lt_of_le_of_lt (Nat.sub_le _ _) hl
        have HC2 := Lib.hid (fun (hc2 : 2 ≤ c) => HIH.out (some ⟨b, off + 1, none⟩) (c - 1) (l - (l &&& s)) (w.drewN m) ((HD.out hc2).drewN _) hr8)
        have HC1 := Lib.hid (fun (hc2 : c = 1) => HIH.out (some ⟨b, off, none⟩) 0 (l - (l &&& s)) (w.drewN m) ((HD1.out hc2).drewN _) hr8)
        obtain ⟨X, hX⟩ : ∃ X, X = s - (s &&& l) := ⟨_, rfl⟩
        obtain ⟨Y, hY⟩ : ∃ Y, Y = l - (l &&& s) := ⟨_, rfl⟩
        obtain ⟨v, hv⟩ : ∃ v, v = svA ds Y f := ⟨_, rfl⟩
        rw [← hX] at e1 HSO
        rw [← hY] at e2 HSO HC1 HC2
        rw [← hv] at HSO HC1 HC2
        have hk1 : k + 1 ≤ LD := hlt
        have hkl : (k : Int) < (LD : Int) := by omega
        clear hX hY hv hx hlt hr8
        rcases hb : (X == 0) with _ | _
        · have hq : ((X : Int) == 0) = false := by rw [← hb]; rw [Bool.eq_iff_iff]; simp
          have HN' := Lib.hid (HNX.out (by rw [HSO.out, hb]; rfl))
          clear hb HSO HNX HYE HC1 HC2
          go_wp2
          go_roundw
          case rel => exact ⟨k + 1, _, hk1, by go_num, rfl, HN'⟩
          case measure => simp [intOf]; omega
        · have hq : ((X : Int) == 0) = true := by rw [← hb]; rw [Bool.eq_iff_iff]; simp
          cases v with
          | false =>
            have HN' := Lib.hid (HNX.out (by rw [HSO.out, hb]; rfl))
            clear hb HSO HNX HYE
            by_cases hc2 : 2 ≤ c
            · have HC := Lib.hid (HC2.out hc2)
              obtain ⟨e, rfl⟩ : ∃ e, c = e + 2 := ⟨c - 2, by omega⟩
              clear HC1 HC2 HIH HD HD1 hc2
              go_wp2_with fail
              refine HC.out.mono ?_
              rintro e9 w9 ⟨rfl, q, rfl⟩
              go_wp2
              go_roundw
              case rel => exact ⟨k + 1, _, hk1, by go_num, rfl, HN'⟩
              case measure => simp [intOf]; omega
            · obtain rfl : c = 1 := by omega
              have HC := Lib.hid (HC1.out rfl)
              clear HC1 HC2 HIH HD HD1 hc2
              go_wp2_with fail
              refine HC.out.mono ?_
              rintro e9 w9 ⟨rfl, q, rfl⟩
              go_wp2
              go_roundw
              case rel => exact ⟨k + 1, _, hk1, by go_num, rfl, HN'⟩
              case measure => simp [intOf]; omega
          | true =>
            have HE := Lib.hid (HYE.out (by rw [HSO.out, hb]; rfl))
            clear hb HSO HNX HYE
            by_cases hc2 : 2 ≤ c
            · have HC := Lib.hid (HC2.out hc2)
              obtain ⟨e, rfl⟩ : ∃ e, c = e + 2 := ⟨c - 2, by omega⟩
              clear HC1 HC2 HIH HD HD1 hc2
              go_wp2_with fail
              refine HC.out.mono ?_
              rintro e9 w9 ⟨rfl, q, rfl⟩
              go_wp2
              go_ret
              exact ⟨by rw [HE.out]; rfl, _, rfl⟩
            · obtain rfl : c = 1 := by omega
              have HC := Lib.hid (HC1.out rfl)
              clear HC1 HC2 HIH HD HD1 hc2
              go_wp2_with fail
              refine HC.out.mono ?_
              rintro e9 w9 ⟨rfl, q, rfl⟩
              go_wp2
              go_ret
              exact ⟨by rw [HE.out]; rfl, _, rfl⟩
      · obtain rfl : k = LD := by omega
        have HE : Hid (svA (d :: ds) l f = false) := Lib.hid (by have := HN.out; rw [HLD.out] at this; exact this.all)
        go_wp2
        go_ret
        exact ⟨by rw [HE.out]; rfl, _, rfl⟩

end Go.Proofs.Ytfjncipekjnbjaa

/-
  Chapter 7: whether the wanted sets of all bidders can be served, plain.
-/
namespace Go.Proofs.Ytfjncipekjnbjaa
open Go.RowKit

theorem sub_iff {l s : Nat} (hs : s < 8) : s ∈ subs l ↔ (s - (s &&& l) == 0) = true := by
  have hle : s &&& l ≤ s := Nat.and_le_left
  constructor
  · intro h; rw [subs_and h]; simp
  · intro h
    have h1 : s - (s &&& l) = 0 := by simpa using h
    have h2 : s &&& l = s := by omega
    simp [subs, hs, h2]
theorem svA_iff {p : List Int} {f : Nat} : ∀ {ts : List (List Int)} {X : Nat}, X < 8 → (∀ Y, Y < 8 → ((Y - (Y &&& f) == 0) = true ↔ pr p Y = 0)) → (svA (ts.map (fun t => dm t p)) X f = true ↔ Clr ts p X) := by
  intro ts
  induction ts with
  | nil => intro X hX hf; exact hf X hX
  | cons t ts ih =>
    intro X hX hf
    rw [List.map_cons, svA_cons, List.any_eq_true]
    constructor
    · rintro ⟨x, hx, h⟩
      obtain ⟨s, rfl, hs8, he⟩ := dm_mem.1 hx
      unfold svO at h
      obtain ⟨h1, h2⟩ := Bool.and_eq_true_iff.1 h
      rw [Int.toNat_natCast] at h1 h2
      have hs := (sub_iff hs8).2 h1
      rw [Nat.and_comm, subs_and hs] at h2
      exact ⟨s, hs, he, (ih (sub_lt hX hs) hf).1 h2⟩
    · rintro ⟨s, hs, he, h2⟩
      have hs8 := subs_lt hs
      refine ⟨(s : Int), dm_mem.2 ⟨s, rfl, hs8, he⟩, ?_⟩
      unfold svO
      rw [Int.toNat_natCast]
      refine Bool.and_eq_true_iff.2 ⟨(sub_iff hs8).1 hs, ?_⟩
      rw [Nat.and_comm, subs_and hs]
      exact (ih (sub_lt hX hs) hf).2 h2
theorem free_iff {p : List Int} (hp : VP p) : ∀ Y, Y < 8 → ((Y - (Y &&& sm p [0, 0, 0]) == 0) = true ↔ pr p Y = 0) := by
  intro Y hY
  obtain ⟨a, b, c⟩ := hp.all
  obtain ⟨v0, v1, v2, v3, v4, v5, v6, v7⟩ := pr_vals p
  have z0 : T [0, 0, 0] 0 = 0 := rfl
  have z1 : T [0, 0, 0] 1 = 0 := rfl
  have z2 : T [0, 0, 0] 2 = 0 := rfl
  have hs : sm p [0, 0, 0] = (if T p 0 = 0 then 1 else 0) + (if T p 1 = 0 then 2 else 0) + (if T p 2 = 0 then 4 else 0) := by
    unfold sm
    simp only [smTo, z0, z1, z2]
    split <;> split <;> split <;> simp
  rw [hs]
  by_cases h0 : T p 0 = 0 <;> by_cases h1 : T p 1 = 0 <;> by_cases h2 : T p 2 = 0 <;> simp only [h0, h1, h2, if_true, if_false] <;>
    rcases nat8 hY with rfl | rfl | rfl | rfl | rfl | rfl | rfl | rfl <;> simp <;> omega
theorem served {ts : List (List Int)} {p : List Int} (hv : VTs ts) (hp : VP p) : svA (ts.map (fun t => dm t p)) 7 (sm p [0, 0, 0]) = true ↔ lo ts p = sv ts 7 := by
  rw [svA_iff (by omega) (free_iff hp), clr_load (fun t ht => (hv.2 t ht).2.1) hp]

end Go.Proofs.Ytfjncipekjnbjaa

/-
  Chapter 7: IsClear by the program, and both sides.
-/
namespace Go.Proofs.Ytfjncipekjnbjaa
open Go.RowKit

theorem RowsU.moreC {w w1 : World} {B : Nat} {v v' : Value} {ps : List (Nat × Nat × List Int)} {p : Nat × Nat × List Int} {tmp : Obj} (h : RowsU w B v ps) (ho : Own w B (some ⟨p.1, 0, none⟩) p.2.1 p.2.2) (hn : p.1 ∉ ps.map (·.1))
    (hown : w1.ownsRow B 24 1 v' (ps.length + 1) (ps.map slU ++ [slU p])) (hg : (w.alloc tmp).grownBy w1 v.ownBlock) : RowsU w1 B v' (ps ++ [p]) := by
  have hk : ∀ q : Nat × Nat × List Int, Own w B (some ⟨q.1, 0, none⟩) q.2.1 q.2.2 → Own w1 B (some ⟨q.1, 0, none⟩) q.2.1 q.2.2 := by
    intro q hq
    have h1 := World.ownsRow.kept (show (w.alloc tmp).ownsRow B 3 1 _ _ _ from hq.below ((Below.refl _ w).alloc (Nat.le_refl _) tmp)) hg (.inr (by
      have := rowU_apart h.row hq
      simp only [Value.ownBlock]
      exact fun e => this e.symm))
    exact h1
  refine ⟨by simpa using hown, ?_, ?_⟩
  · intro q hq
    rcases List.mem_append.1 hq with hq | hq
    · exact hk q (h.each q hq)
    · obtain rfl : q = p := by simpa using hq
      exact hk q ho
  · rw [List.map_append, List.nodup_append]
    refine ⟨h.nodup, by simp, ?_⟩
    intro a ha b hb hab
    simp at hb
    subst hb hab
    exact hn ha
theorem RowsU.notInC {w w0 : World} {B B' g c : Nat} {v : Value} {zs : List Int} {ps : List (Nat × Nat × List Int)} (h : RowsU w0 B v ps) (hs : w0.heap.size ≤ B') (ho : Own w B' (some ⟨g, 0, none⟩) c zs) : g ∉ ps.map (·.1) := by
  intro hg
  obtain ⟨p, hp, rfl⟩ := List.mem_map.1 hg
  have h1 := (h.each p hp).lt
  have h2 := ho.ge
  omega
theorem dmB_yesC {t p : List Int} (hv : VT t) (hp : VP p) : dmB t p = dm t p := by unfold dmB; rw [vt_iff.2 hv, vp_iff.2 hp]; rfl
theorem RowsU.grownBelow {w w' wa wt : World} {B0 B : Nat} {v : Value} {ps : List (Nat × Nat × List Int)} (hb : Below B0 wa wt) (h : RowsU w B v ps) (hB : B0 ≤ B) (hs : B0 ≤ wt.heap.size) (hg : wt.grownBy w' v.ownBlock) : Below B0 wa w' :=
  hb.grown hg hs (fun k hk => Nat.le_trans hB (World.ownsRow.lt h.row k hk).1)
theorem icB_eq {ts : List (List Int)} {p : List Int} (hv : VTs ts) (hp : VP p) : svA (ts.map (fun t => dm t p)) 7 (sm p [0, 0, 0]) = icB ts p := by
  rw [Bool.eq_iff_iff, served hv hp, icB_iff]
theorem sameIn0_any (p : List Int) (w : World) :
    Calls Try.prog 91 #[.agg #[.int .i64 (T p 0), .int .i64 (T p 1), .int .i64 (T p 2)], .agg #[.int .i64 0, .int .i64 0, .int .i64 0]] w fun e w' => e = .returned (.int .i64 ((sm p [0, 0, 0] : Nat) : Int)) ∧ Below w.heap.size w w' := sameIn_any p [0, 0, 0] w

set_option maxRecDepth 100000 in
set_option maxHeartbeats 2000000 in
theorem IsClear_any (A B : Option Addr) (c d : Nat) (ts : List (List Int)) (p : List Int) (w : World) (h : RdR w A c ts) (g : Rd w B d p) (hl2 : ∀ r ∈ ts, r.length ≤ 1099511627776) :
    Calls Try.prog 42 #[.slice A ts.length c, .slice B p.length d] w fun e w' => e = .returned (.bool (isB ts p)) ∧ Below w.heap.size w w' := by
  have HV := Lib.hid (areTables_any A c ts w h hl2)
  have HQ := Lib.hid (fun w1 (g : Rd w1 B d p) => arePrices_any B d p w1 g)
  rcases hv : vtsB ts with _ | _
  · have HE : Hid (isB ts p = false) := Lib.hid (by unfold isB; rw [hv]; rfl)
    rw [hv] at HV
    clear hv
    go_enter Try.func42, Try.ntmps42
    go_wp2_with fail
    refine HV.out.mono ?_
    rintro e w1 ⟨rfl, b1⟩
    go_wp2
    go_ret
    exact ⟨by rw [HE.out]; rfl, b1⟩
  rcases hp : vp p with _ | _
  · have HE : Hid (isB ts p = false) := Lib.hid (by unfold isB; rw [hv, hp]; rfl)
    rw [hv] at HV
    rw [hp] at HQ
    clear hv hp
    go_enter Try.func42, Try.ntmps42
    go_wp2_with fail
    refine HV.out.mono ?_
    rintro e w1 ⟨rfl, b1⟩
    go_wp2_with fail
    refine (HQ.out _ (g.below b1)).mono ?_
    rintro e w2 ⟨rfl, rfl⟩
    go_wp2
    go_ret
    exact ⟨by rw [HE.out]; rfl, b1⟩
  · have HE : Hid (isB ts p = icB ts p) := Lib.hid (by unfold isB; rw [hv, hp]; rfl)
    have hvt := vtsB_iff.1 hv
    have hvp := vp_iff.1 hp
    have HIC := Lib.hid (icB_eq hvt hvp)
    have HVT := Lib.hid hvt.2
    have h4 := hvt.1.2
    have h1n := hvt.1.1
    have h3 := hvp.1
    have HDM := Lib.hid (fun (t : List Int) (ht : t ∈ ts) => dmB_yesC (hvt.2 t ht) hvp)
    have HD := Lib.hid (fun (A : Option Addr) (c : Nat) (t : List Int) w1 (ht : VT t) (h : Rd w1 A c t) (g : Rd w1 B d p) => DemandAt_any A B c d t p w1 h g (by rw [ht.1]; omega))
    have HSI := Lib.hid (sameIn0_any p)
    have HSA := Lib.hid (fun A c w1 (h : RdR w1 A c (ts.map (fun t => dm t p))) => servesAll_any (ts.map (fun t => dm t p)) A c 7 (sm p [0, 0, 0]) w1 h (by
      intro u hu
      obtain ⟨t, _, rfl⟩ := List.mem_map.1 hu
      exact ⟨dm_len t p, fun x hx => by obtain ⟨s, e1, e2, _⟩ := dm_mem.1 hx; exact ⟨s, e1, e2⟩⟩) (by rw [List.length_map]; omega) (by omega) (sm_lt _ _))
    rw [List.length_map] at HSA
    obtain ⟨b2, off2, rfl⟩ := g.some3 h3
    have hap3 := arr3_ptr b2 off2 d
    obtain ⟨n, hn⟩ : ∃ n, n = ts.length := ⟨_, rfl⟩
    have HN := Lib.hid hn
    rw [hv, ← hn] at HV
    rw [hp] at HQ
    rw [h3] at HQ HD
    rw [← hn] at HSA h4 h1n
    rw [h3, ← hn]
    clear hv hp hvt hvp hn
    obtain ⟨i0, hi, hz0, hz1, hz2⟩ := info_parts intsU_info
    go_enter Try.func42, Try.ntmps42
    go_wp2_with fail
    refine HV.out.mono ?_
    rintro e w1 ⟨rfl, b1⟩
    go_wp2_with fail
    refine (HQ.out _ (g.below b1)).mono ?_
    rintro e w2 ⟨rfl, rfl⟩
    have hr1 := h.below b1
    have hg1 := g.below b1
    have OU0 : Hid (RowsU w1 w1.heap.size (.slice none 0 0) []) := Lib.hid (RowsU.nil _ _)
    go_wp2_with fail
    go_loopw [5, 19] (fun v iv wr => ∃ (k : Nat) (ps : List (Nat × Nat × List Int)), k ≤ n ∧ iv = .int .i64 (k : Int) ∧ Hid (ps.length = k) ∧ Hid (RowsU wr w1.heap.size v ps) ∧ Hid (ps.map (·.2.2) = (ts.map (fun t => dm t p)).take k) ∧ Below w1.heap.size w1 wr) (fun _ iv _ => n - (intOf iv).toNat)
    case atStart => exact ⟨0, [], by omega, rfl, Lib.hid rfl, OU0, Lib.hid rfl, Below.refl _ _⟩
    case round =>
      clear OU0
      obtain ⟨k, ps, hk, rfl, HL, HR, HM, hb⟩ := hrel
      by_cases hlt : k < n
      · obtain ⟨b, off, t, A', c', rfl, ht, hc, hcap, hrd⟩ := (hr1.below hb).at_ (k := k) (by rw [← HN.out]; exact hlt)
        have hmt := List.mem_of_getElem? ht.out
        have hvt := HVT.out t hmt
        have HDe := Lib.hid (HDM.out t hmt)
        have HMN : Hid ((ts.map (fun t => dm t p)).take (k + 1) = (ts.map (fun t => dm t p)).take k ++ [dm t p]) := Lib.hid (by rw [List.take_add_one, List.getElem?_map, ht.out]; rfl)
        have HDO := Lib.hid (HD.out A' c' t wr hvt hrd.out (hg1.below hb))
        rw [hvt.1] at hc HDO
        have hne : dm t p ≠ [] := dm_some hvt.2.1
        have hk1 : k + 1 ≤ n := hlt
        have hkn : (k : Int) < (n : Int) := by omega
        clear ht hmt hrd hcap hlt hvt
        go_wp2_with fail
        refine HDO.out.mono ?_
        rintro e w3 ⟨A3, c3, rfl, o3, b3⟩
        rw [HDe.out] at o3 ⊢
        obtain ⟨g3, rfl⟩ := own_some o3 (by have := List.length_pos_iff.2 hne; omega)
        have HR3 := Lib.hid (HR.out.below b3)
        have HNI := Lib.hid (HR.out.notInC (Nat.le_refl _) o3)
        have hsz := hb.size
        have HO3 := Lib.hid (o3.base hsz)
        have hb3 : Below w1.heap.size w1 w3 := hb.trans (b3.mono hsz)
        have HT := Lib.hid (own_len HR3.out.row ((Below.refl _ w3).alloc (Nat.le_refl _) (.cells #[.slice (some ⟨g3, 0, none⟩) (dm t p).length c3] 24)))
        have hB3 : Below w1.heap.size w1 (w3.alloc (.cells #[.slice (some ⟨g3, 0, none⟩) (dm t p).length c3] 24)) := hb3.alloc hb3.size _
        have hps4 : ps.length ≤ 4 := by have := HL.out; omega
        have hb63 : ps.length + 1 ≤ maxLen := by have := HL.out; unfold maxLen; omega
        have hSz : w1.heap.size ≤ w3.heap.size + 1 := by have := hb3.size; omega
        clear HDO o3 b3 HR
        go_wp2_with (at_builtin; (refine wpList_append_own _ rfl _ _ 23 rfl w1.heap.size 24 i0 (.slice none 0 0) 1 24 Try.underlying23 hi hz0 hz1 hz2 rfl (by decide) u5 ps.length (ps.map slU) rfl HT.out ⟨w3.heap.size, 0, none⟩ 1 1 [.slice (some ⟨g3, 0, none⟩) (dm t p).length c3] rfl rfl (cell_one_new _ _ _) (by simp [Value.oneCell']) hb63 (by omega) (by simpa using hSz) ?_; intro v5 w5 hown5 hg5 _))
        have R5 : RowsU w5 w1.heap.size v5 (ps ++ [(g3, c3, dm t p)]) := HR3.out.moreC (p := (g3, c3, dm t p)) HO3.out HNI.out hown5 hg5
        have hb5 : Below w1.heap.size w1 w5 := RowsU.grownBelow hB3 HR3.out (Nat.le_refl _) (by simpa using hSz) hg5
        have HR5 := Lib.hid R5
        have HL5 : Hid ((ps ++ [(g3, c3, dm t p)]).length = k + 1) := Lib.hid (by rw [List.length_append, HL.out]; rfl)
        have HM5 : Hid ((ps ++ [(g3, c3, dm t p)]).map (·.2.2) = (ts.map (fun t => dm t p)).take (k + 1)) := Lib.hid (by rw [List.map_append, HM.out, HMN.out]; rfl)
        clear hown5 hg5 HT R5
        go_roundw
        case rel => exact ⟨k + 1, ps ++ [(g3, c3, dm t p)], hk1, by go_num, HL5, HR5, HM5, hb5⟩
        case measure => simp [intOf]; omega
      · obtain rfl : k = n := by omega
        have hM : ps.map (·.2.2) = ts.map (fun t => dm t p) := by rw [HM.out, List.take_of_length_le (by rw [List.length_map, ← HN.out]; omega)]
        obtain ⟨A5, c5, rfl, hr5⟩ := HR.out.rdr hM
        rw [List.length_map, ← HN.out]
        have HR5 := Lib.hid hr5
        obtain ⟨g0, g1, g2⟩ := (hg1.below hb).three h3
        clear hr5 hM HR HM
        go_wp2_with fail
        refine (HSI.out _).mono ?_
        rintro e w6 ⟨rfl, b6⟩
        have hr6 := HR5.out.below b6
        go_wp2_with fail
        refine (HSA.out A5 c5 _ hr6).mono ?_
        rintro e w7 ⟨rfl, q, rfl⟩
        have hB := below_drewN' (hb.trans (b6.mono hb.size)) q
        go_wp2
        go_ret
        exact ⟨by rw [HE.out, ← HIC.out]; rfl, below_then b1 hB⟩

theorem IsClear_both (rows : List (List Int)) (told : List Int) : ∃ (v : Bool), (rows.length ≤ 1099511627776 → (∀ r ∈ rows, r.length ≤ 1099511627776) → told.length ≤ 1099511627776 →
    (∀ A T c d w, RdR w A c rows → Rd w T d told → told.length ≤ d → Calls Try.prog 43 #[.slice A rows.length c, .slice T told.length d] w fun e w' => e = .returned (.bool v) ∧ Below w.heap.size w w') ∧
    (∀ A T c d w, RdR w A c rows → Rd w T d told → told.length ≤ d → Calls Try.prog 42 #[.slice A rows.length c, .slice T told.length d] w fun e w' => e = .returned (.bool v) ∧ Below w.heap.size w w')) :=
  ⟨isB rows told, fun hl hl2 hl3 => ⟨fun A T c d w h1 h2 _ => SIsClear_any A T c d rows told w h1 h2 hl hl2 hl3,
    fun A T c d w h1 h2 _ => IsClear_any A T c d rows told w h1 h2 hl2⟩⟩

end Go.Proofs.Ytfjncipekjnbjaa

/-
  Chapter 7: loads by the program, and both sides of LoadAt.
-/
namespace Go.Proofs.Ytfjncipekjnbjaa
open Go.RowKit

theorem Pr3.rd3 {w : World} {M : Nat} {p : List Int} (h : Pr3 w M p) (c : Nat) : Rd w (some ⟨M, 0, none⟩) c [T p 0, T p 1, T p 2] := .inr ⟨M, 0, rfl, fun k hk => by
  have hk3 : k < 3 := by simpa using hk
  rw [Nat.zero_add, h.cell hk3]
  rcases nat3 hk3 with rfl | rfl | rfl <;> rfl⟩
theorem some2_prices {p : List Int} (h : VP p) : Some2 [T p 0, T p 1, T p 2] := by
  obtain ⟨a, b, c⟩ := h.all
  intro x hx
  simp only [List.mem_cons, List.not_mem_nil, or_false] at hx
  rcases hx with rfl | rfl | rfl <;> omega

set_option maxRecDepth 100000 in
set_option maxHeartbeats 1000000 in
theorem loadOf_any (A : Option Addr) (c n : Nat) (ts : List (List Int)) (p : List Int) (w : World) (hn : ts.length = n) (h : RdR w A c ts) (hv : ∀ t ∈ ts, VT t) (h4 : n ≤ 4) (hp : VP p) :
    Calls Try.prog 100 #[.slice A n c, ag3 p] w fun e w' => e = .returned (.int .i64 (lo ts p)) ∧ Below w.heap.size w w' := by
  unfold ag3
  have HN := Lib.hid hn
  have HSB := Lib.hid (fun k => suS_take_bd hv hp k)
  have HVT := Lib.hid hv
  have HVP := Lib.hid hp
  have hpb := pr7_bd hp (k := 3) (by omega)
  have hps : [T p 0, T p 1, T p 2].sum = prTo p 7 3 := by simp [prTo]; omega
  clear hp hn hv
  have P1 := Pr3.new w p
  have B1 : Below w.heap.size w (w.alloc (.cells #[.int .i64 (T p 0), .int .i64 (T p 1), .int .i64 (T p 2)] 68)) := (Below.refl _ w).alloc (Nat.le_refl _) _
  have h1 := h.below B1
  obtain ⟨w1, hw1⟩ : ∃ w1, w1 = w.alloc (.cells #[.int .i64 (T p 0), .int .i64 (T p 1), .int .i64 (T p 2)] 68) := ⟨_, rfl⟩
  rw [← hw1] at P1 B1 h1
  have HW := Lib.hid hw1
  clear hw1 h
  go_enter Try.func100, Try.ntmps100
  go_wp2_with fail
  rw [← HW.out]
  have HSM := Lib.hid (sumU_any (some ⟨w.heap.size, 0, none⟩) 3 3 (prTo p 7 3) [T p 0, T p 1, T p 2] w1 rfl hps.symm (P1.rd3 3) (by decide) (some2_prices HVP.out))
  refine HSM.out.mono ?_
  rintro e w2 ⟨rfl, rfl⟩
  have HLO : Hid (∀ k, prTo p 7 3 + suS (ts.take k) p = pr p 7 + suS (ts.take k) p) := Lib.hid (fun _ => rfl)
  obtain ⟨P, hP⟩ : ∃ P, P = prTo p 7 3 := ⟨_, rfl⟩
  rw [← hP] at hpb HLO ⊢
  have HS0 : Hid (P = P + suS (ts.take 0) p) := Lib.hid (by simp [suS])
  have HP1 := Lib.hid P1
  clear hP hps HSM P1
  go_wp2_with fail
  go_loopw [5, 12] (fun o i wr => ∃ k : Nat, k ≤ n ∧ o = .int .i64 (P + suS (ts.take k) p) ∧ i = .int .i64 (k : Int) ∧ Below w1.heap.size w1 wr) (fun _ i _ => n - (intOf i).toNat)
  case atStart => exact ⟨0, by omega, by rw [← HS0.out], rfl, Below.refl _ _⟩
  case round =>
    obtain ⟨k, hk, rfl, rfl, hb⟩ := hrel
    by_cases hlt : k < n
    · obtain ⟨b, off, r, A', c', rfl, hr, hc, hcap, hrd⟩ := (h1.below hb).at_ (k := k) (by rw [HN.out]; exact hlt)
      have hvr := HVT.out r (List.mem_of_getElem? hr.out)
      have hst := suS_step p hr.out
      have hsb := HSB.out k
      rw [HN.out] at hsb
      have hub := suTo_bd hvr HVP.out (k := 8) (Nat.le_refl _)
      have hue : su r p = suTo r p 8 := rfl
      rw [← hue] at hub
      have HS0' := fun w1 => surplusOf_any r p w1 hvr HVP.out
      unfold ag8 ag3 at HS0'
      obtain ⟨br, ofr, rfl⟩ := hrd.out.some_ hvr.1
      have hap := arr_ptr br ofr c'
      obtain ⟨c0, c1, c2, c3, c4, c5, c6, c7⟩ := hrd.out.eight hvr.1
      have hP := HP1.out.keep (hb.block _ HP1.out.lt)
      have g0 := hP.cell (k := 0) (by omega)
      have g1 := hP.cell (k := 1) (by omega)
      have g2 := hP.cell (k := 2) (by omega)
      rw [hvr.1] at hc
      have HS := Lib.hid HS0'
      obtain ⟨u, hu⟩ : ∃ u, u = su r p := ⟨_, rfl⟩
      rw [← hu] at hub hst HS
      obtain ⟨V, hV⟩ : ∃ V, V = suS (ts.take k) p := ⟨_, rfl⟩
      rw [← hV] at hsb hst ⊢
      have HST := Lib.hid hst
      have e1 : IntKind.i64.wrap (P + V + u) = P + (V + u) := by rw [IntWalk.i64_in _ (by omega)]; omega
      have hk1 : k + 1 ≤ n := hlt
      have hkn : (k : Int) < (n : Int) := by omega
      clear hV hu hue hub hsb hr hvr hrd hcap hlt hP hst HS0'
      go_wp2_with fail
      have hbd := hb.drew
      go_region_law (first
        | (go_simp; go_at_call 78; (with_reducible refine (HS.out wr.drew).mono ?_); rintro e w2 ⟨rfl, hb2⟩; have hb3 := below_then hbd hb2)
        | fail)
      all_goals (
        go_wp2
        go_roundw
        case rel => exact ⟨k + 1, hk1, by rw [HST.out], by go_num, hb3⟩
        case measure => simp [intOf]; omega)
    · obtain rfl : k = n := by omega
      have HE : Hid (P + suS (ts.take k) p = lo ts p) := Lib.hid (by rw [HLO.out, List.take_of_length_le (by rw [HN.out]; omega)]; rfl)
      go_wp2
      go_ret
      exact ⟨by rw [HE.out]; rfl, below_then B1 hb⟩

set_option maxRecDepth 100000 in
set_option maxHeartbeats 800000 in
theorem LoadAt_any (A B : Option Addr) (c d : Nat) (ts : List (List Int)) (p : List Int) (w : World) (h : RdR w A c ts) (g : Rd w B d p) (hl2 : ∀ r ∈ ts, r.length ≤ 1099511627776) :
    Calls Try.prog 44 #[.slice A ts.length c, .slice B p.length d] w fun e w' => e = .returned (.int .i64 (loB ts p)) ∧ Below w.heap.size w w' := by
  have HV := Lib.hid (areTables_any A c ts w h hl2)
  have HQ := Lib.hid (fun w1 (g : Rd w1 B d p) => arePrices_any B d p w1 g)
  rcases hv : vtsB ts with _ | _
  · have HE := Lib.hid (loB_no (ts := ts) (p := p) (by rw [hv]; rfl))
    rw [hv] at HV
    clear hv
    go_enter Try.func44, Try.ntmps44
    go_wp2_with fail
    refine HV.out.mono ?_
    rintro e w1 ⟨rfl, b1⟩
    go_wp2
    go_ret
    exact ⟨by rw [HE.out]; rfl, b1⟩
  rcases hp : vp p with _ | _
  · have HE := Lib.hid (loB_no (ts := ts) (p := p) (by rw [hp]; simp))
    rw [hv] at HV
    rw [hp] at HQ
    clear hv hp
    go_enter Try.func44, Try.ntmps44
    go_wp2_with fail
    refine HV.out.mono ?_
    rintro e w1 ⟨rfl, b1⟩
    go_wp2_with fail
    refine (HQ.out _ (g.below b1)).mono ?_
    rintro e w2 ⟨rfl, rfl⟩
    go_wp2
    go_ret
    exact ⟨by rw [HE.out]; rfl, b1⟩
  · have HE := Lib.hid (loB_yes hv hp)
    have hvt := vtsB_iff.1 hv
    have hvp := vp_iff.1 hp
    have HL0 := fun w1 (h : RdR w1 A c ts) => loadOf_any A c ts.length ts p w1 rfl h hvt.2 hvt.1.2 hvp
    unfold ag3 at HL0
    have HL := Lib.hid HL0
    have h3 := hvp.1
    obtain ⟨b2, off2, rfl⟩ := g.some3 h3
    have hap3 := arr3_ptr b2 off2 d
    rw [hv] at HV
    rw [hp] at HQ
    rw [h3] at HQ ⊢
    clear hv hp hvt hvp HL0
    go_enter Try.func44, Try.ntmps44
    go_wp2_with fail
    refine HV.out.mono ?_
    rintro e w1 ⟨rfl, b1⟩
    go_wp2_with fail
    refine (HQ.out _ (g.below b1)).mono ?_
    rintro e w2 ⟨rfl, rfl⟩
    obtain ⟨g0, g1, g2⟩ := (g.below b1).three h3
    have h1 := h.below b1
    go_wp2_with fail
    refine (HL.out _ ?_).mono ?_
    · exact h1
    rintro e w3 ⟨rfl, b3⟩
    go_wp2
    go_ret
    exact ⟨by rw [HE.out]; rfl, below_then b1 b3⟩

theorem LoadAt_both (rows : List (List Int)) (told : List Int) : ∃ (v : Int), (rows.length ≤ 1099511627776 → (∀ r ∈ rows, r.length ≤ 1099511627776) → told.length ≤ 1099511627776 →
    (∀ A T c d w, RdR w A c rows → Rd w T d told → told.length ≤ d → Calls Try.prog 47 #[.slice A rows.length c, .slice T told.length d] w fun e w' => e = .returned (.int .i64 v) ∧ Below w.heap.size w w') ∧
    (∀ A T c d w, RdR w A c rows → Rd w T d told → told.length ≤ d → Calls Try.prog 44 #[.slice A rows.length c, .slice T told.length d] w fun e w' => e = .returned (.int .i64 v) ∧ Below w.heap.size w w')) :=
  ⟨loB rows told, fun hl hl2 hl3 => ⟨fun A T c d w h1 h2 _ => (SLoadAt_any A T c d rows told w h1 h2 hl hl2 hl3).mono fun e w' ⟨he, n, hn⟩ => ⟨he, by rw [hn]; exact below_drewN' (Below.refl _ _) n⟩,
    fun A T c d w h1 h2 _ => LoadAt_any A T c d rows told w h1 h2 hl2⟩⟩

end Go.Proofs.Ytfjncipekjnbjaa

/-
  Chapter 4, the program: the contract of BestSplit.
-/
namespace Go.Proofs.Ytfjncipekjnbjaa
open Go.RowKit Go.Shelf
attribute [local go_sem] Oper.semAt_some

theorem row_cells {w : World} {B e n r : Nat} {v : Value} {vs : List Value} (h : w.ownsRow B e 1 v n vs) (hv : v.ownBlock = some r) : ∃ o, w.heap[r]? = some o ∧ o.isCells = true := by
  rcases h.2 with ⟨rfl, _⟩ | ⟨g, cap, cur, rfl, _, hh, _⟩
  · simp [Value.ownBlock] at hv
  · obtain rfl : g = r := by simpa [Value.ownBlock] using hv
    exact ⟨_, hh, rfl⟩

/-- What the two boxes hold behind what is done: the best way's sets, and what they are worth. -/
def BoxI (ts : List (List Int)) (n R : Nat) (L : List (List Int)) (v : Value) (m : Int) (W : World) : Prop :=
  (L = [] ∧ v = .slice none 0 0 ∧ m = -1) ∨ ∃ b g c, bestA (worthF ts) L = some b ∧ v = .slice (some ⟨g, 0, none⟩) n c ∧ Own W R (some ⟨g, 0, none⟩) c (setsF b n) ∧ m = worthF ts b
theorem setsF_len' (os : List Int) (n : Nat) : (setsF os n).length = n := by simp [setsF]
theorem BoxI.kept {ts : List (List Int)} {n R : Nat} {L : List (List Int)} {v : Value} {m : Int} {A C : World} {r : Option Nat} (h : BoxI ts n R L v m A) (hg : A.grownBy C r) (hr : ∀ k, r = some k → k < R ∨ ∃ o, A.heap[k]? = some o ∧ o.isCells = false) : BoxI ts n R L v m C := by
  rcases h with h | ⟨b, g, c, h1, h2, h3, h4⟩
  · exact .inl h
  · refine .inr ⟨b, g, c, h1, h2, World.ownsRow.kept h3 hg (.inr fun e => ?_), h4⟩
    have e : some g = r := e
    rcases hr g e.symm with hr | ⟨o, ho, hc⟩
    · have := (World.ownsRow.lt h3 g rfl).1
      omega
    · obtain ⟨o', ho', hc'⟩ := row_cells h3 (r := g) rfl
      rw [ho] at ho'
      cases ho'
      rw [hc] at hc'
      cases hc'

/-- Where the loop over all ways stands. -/
structure BstI (W0 : World) (ts : List (List Int)) (n p R : Nat) (L : List (List Int)) (v : Value) (m : Int) (s : Option (List Int)) (W : World) : Prop where
  best : Boxed W p 24 v
  most : Boxed W (p + 1) 3 (.int .i64 m)
  at_ : BoxI ts n R L v m W
  done : DoneTo n L s
  below : Below p W0 W
theorem BstI.kept {W0 A C : World} {ts : List (List Int)} {n p R : Nat} {L : List (List Int)} {v : Value} {m : Int} {s : Option (List Int)} {r : Nat} (h : BstI W0 ts n p R L v m s A) (hp0 : p ≤ W0.heap.size) (hg : A.grownBy C (some r)) (hp : p + 1 < r)
    (hr : r < R ∨ ∃ o, A.heap[r]? = some o ∧ o.isCells = false) : BstI W0 ts n p R L v m s C :=
  ⟨h.best.kept hg (fun e => by cases e; omega), h.most.kept hg (fun e => by cases e; omega), h.at_.kept hg (fun k e => by cases e; exact hr), h.done, h.below.grown hg (Nat.le_trans hp0 h.below.size) (fun k e => by cases e; omega)⟩
theorem BstI.same {W0 A C : World} {ts : List (List Int)} {n p R : Nat} {L : List (List Int)} {v : Value} {m : Int} {s : Option (List Int)} (h : BstI W0 ts n p R L v m s A) (hb : Below A.heap.size A C) (hp0 : p ≤ W0.heap.size) : BstI W0 ts n p R L v m s C :=
  ⟨(hb.block _ h.best.lt).trans h.best, (hb.block _ h.most.lt).trans h.most, h.at_.kept (grown_of_below hb none) (fun k e => by cases e), h.done, h.below.trans (hb.mono (Nat.le_trans hp0 h.below.size))⟩
theorem BstI.skip {W0 A : World} {ts : List (List Int)} {n p R : Nat} {L : List (List Int)} {v : Value} {m : Int} {ys : List Int} (h : BstI W0 ts n p R L v m (some ys) A) (hv : ∀ t ∈ ts, VT t) (hf : Fit n 3 ys) (hw : ¬ m < worthF ts ys) : BstI W0 ts n p R (L ++ [ys]) v m (nextF ys n) A := by
  refine ⟨h.best, h.most, ?_, h.done.step hf, h.below⟩
  rcases h.at_ with ⟨_, _, h3⟩ | ⟨b, g, c, h1, h2, h3, h4⟩
  · have := (worthF_bd hv ys).1
    omega
  · exact .inr ⟨b, g, c, by rw [bestA_snoc, h1]; simp [pick, show ¬ worthF ts b < worthF ts ys by omega], h2, h3, h4⟩
theorem BoxI.take {W : World} {ts : List (List Int)} {n R : Nat} {L : List (List Int)} {v : Value} {m : Int} {ys : List Int} {g c : Nat} {C : World} (h : BoxI ts n R L v m W) (hw : m < worthF ts ys) (ho : Own C R (some ⟨g, 0, none⟩) c (setsF ys n)) :
    BoxI ts n R (L ++ [ys]) (.slice (some ⟨g, 0, none⟩) n c) (worthF ts ys) C := by
  refine .inr ⟨ys, g, c, ?_, rfl, ho, rfl⟩
  rcases h with ⟨h1, _⟩ | ⟨b, g, c, h1, h2, h3, h4⟩
  · rw [h1]; rfl
  · rw [bestA_snoc, h1]; simp [pick, show worthF ts b < worthF ts ys by omega]

theorem setsBy_n {n : Nat} (b off c : Nat) (os : List Int) (w : World) (h : Rd w (some ⟨b, off, none⟩) c os) (hf : Fit n 3 os) (hn1 : 1 ≤ n) (hn : n ≤ 4) :
    Calls Try.prog 102 #[.slice (some ⟨b, off, none⟩) 3 c, .int .i64 n] w (SetsIs w os n) := setsBy_any _ c n os w h hf hn1 hn

/-- What BestSplit hands back: the sets, in a block of their own, and what they are worth; nil and -1 for others. -/
def BsIs (w : World) (ts : List (List Int)) (e : Ending) (w' : World) : Prop :=
  ∃ A c xs m, e = .returned (.tuple #[.slice A xs.length c, .int .i64 m]) ∧ Own w' w.heap.size A c xs ∧ Below w.heap.size w w' ∧ ((VTs ts ∧ xs = setsF (wayF ts) ts.length ∧ m = worthF ts (wayF ts)) ∨ (¬ VTs ts ∧ xs = [] ∧ m = -1))

set_option maxRecDepth 100000 in
set_option maxHeartbeats 4000000 in
theorem BestSplit_yes (A : Option Addr) (c n : Nat) (ts : List (List Int)) (w : World) (hn : ts.length = n) (h : RdR w A c ts) (hl2 : ∀ r ∈ ts, r.length ≤ 1099511627776) (hv : VTs ts) :
    Calls Try.prog 45 #[.slice A n c] w (BsIs w ts) := by
  refine (callsIn_wide (n := 5)).1 ?_
  have hn1 : 1 ≤ n := by have := hv.1.1; omega
  have hn4 : n ≤ 4 := by have := hv.1.2; omega
  have B1 : Below w.heap.size w (w.alloc (.cells #[.slice A n c] 23)) := (Below.refl _ w).alloc (Nat.le_refl _) _
  have HC : Hid (Calls Try.prog 97 #[.slice A n c] (w.alloc (.cells #[.slice A n c] 23)) fun e w' => e = .returned (.bool true) ∧ Below (w.alloc (.cells #[.slice A n c] 23)).heap.size (w.alloc (.cells #[.slice A n c] 23)) w') :=
    Lib.hid (by have := areTables_any A c ts _ (h.below B1) hl2; rw [vtsB_true hv, hn] at this; exact this)
  have x0 := Boxed.new w 23 (.slice A n c)
  have X0 := Lib.hid x0
  have HN := Lib.hid hn
  have HV := Lib.hid hv
  clear hn hv x0
  refine callsIn_of_wp_marks Try.func45 rfl trivial ?_ rfl
  simp only [Try.ntmps45, List.size_toArray, List.length_cons, List.length_nil, Nat.reduceAdd, Nat.reduceSub, Array.replicate_succ, Array.replicate_zero, List.push_toArray, List.append_toArray, List.nil_append, List.cons_append]
  gi_wp2_with fail
  refine ⟨trivial, ?_⟩
  gi_at_call 97
  refine (callsIn_wide.2 HC.out).mono ?_
  rintro e w1 ⟨rfl, b1⟩
  have x1 : Boxed w1 w.heap.size 23 (.slice A n c) := (b1.block _ (by simp)).trans X0.out
  have hs1 : w.heap.size + 1 ≤ w1.heap.size := by have := b1.size; simpa using this
  have c1 : ∀ o, (w1.alloc o).cell? ⟨w.heap.size, 0, none⟩ = some (.slice A n c) := fun o => (x1.alloc o).cell
  have c1' : ∀ o o', ((w1.alloc o).alloc o').cell? ⟨w.heap.size, 0, none⟩ = some (.slice A n c) := fun o o' => ((x1.alloc o).alloc o').cell
  have hB1 : Below w.heap.size w w1 := B1.trans (b1.mono B1.size)
  have X1 := Lib.hid x1
  clear X0 HC x1 b1 B1
  gi_wp2_with (first
    | (refine ⟨trivial, ?_⟩; gi_at_call 101; refine (allBids_in _ _ _).mono ?_; rintro e w3 ⟨rfl, rfl⟩))
  have B0 : Below w1.heap.size w1 ((((w1.alloc (.cells #[.slice none 0 0] 24)).alloc (.cells #[.int .i64 (-1)] 3)).alloc (.cells #[.int .i64 3] 3)).alloc (.cells #[.int .i64 n] 3)) :=
    ((((Below.refl _ w1).alloc (Nat.le_refl _) _).alloc (by simp) _).alloc (by simp; omega) _).alloc (by simp; omega) _
  have y4 := (((Boxed.new w1 24 (.slice none 0 0)).alloc (.cells #[.int .i64 (-1)] 3)).alloc (.cells #[.int .i64 3] 3)).alloc (.cells #[.int .i64 n] 3)
  have y5 := ((Boxed.new (w1.alloc (.cells #[.slice none 0 0] 24)) 3 (.int .i64 (-1))).alloc (.cells #[.int .i64 3] 3)).alloc (.cells #[.int .i64 n] 3)
  have yn := (Boxed.new ((w1.alloc (.cells #[.slice none 0 0] 24)).alloc (.cells #[.int .i64 (-1)] 3)) 3 (.int .i64 3)).alloc (.cells #[.int .i64 n] 3)
  have yt := Boxed.new (((w1.alloc (.cells #[.slice none 0 0] 24)).alloc (.cells #[.int .i64 (-1)] 3)).alloc (.cells #[.int .i64 3] 3)) 3 (.int .i64 n)
  rw [World.size_alloc] at y5
  rw [World.size_alloc, World.size_alloc] at yn
  rw [World.size_alloc, World.size_alloc, World.size_alloc] at yt
  have hs0 : ((((w1.alloc (.cells #[.slice none 0 0] 24)).alloc (.cells #[.int .i64 (-1)] 3)).alloc (.cells #[.int .i64 3] 3)).alloc (.cells #[.int .i64 n] 3)).heap.size = w1.heap.size + 4 := by simp
  obtain ⟨W0, hW0⟩ : ∃ W0, ((((w1.alloc (.cells #[.slice none 0 0] 24)).alloc (.cells #[.int .i64 (-1)] 3)).alloc (.cells #[.int .i64 3] 3)).alloc (.cells #[.int .i64 n] 3)) = W0 := ⟨_, rfl⟩
  rw [hW0] at B0 y4 y5 yn yt hs0 ⊢
  clear hW0
  have y0 : Boxed W0 w.heap.size 23 (.slice A n c) := (B0.block _ (by omega)).trans X1.out
  have hB0 : Below w.heap.size w W0 := hB1.trans (B0.mono hB1.size)
  clear X1 c1 c1' hB1
  refine range_known (w := W0) rfl (enters_of Try.func130 (by kernel_rfl) rfl) (allBids1_iter n 3 (w1.heap.size + 1 + 1) (w1.heap.size + 1 + 1 + 1) W0 (by omega) (by omega) (by omega) yn.cell yt.cell) (by omega)
    (fun s W => ∃ L v m, BstI W0 ts n w1.heap.size (W0.heap.size + 3) L v m s W) (fun _ => False)
    (fun s => fun A C r hA hg hr => by
      obtain ⟨L, v, m, hA⟩ := hA
      exact ⟨L, v, m, hA.kept (by omega) hg (by rcases hr with hr | ⟨hr, _⟩ <;> omega) (hr.elim (fun e => .inl (by omega)) (fun e => .inr e.2))⟩)
    (fun _ _ _ h _ _ => h)
    ⟨[], _, _, y4, y5, .inl ⟨rfl, rfl, rfl⟩, DoneTo.start n, Below.refl _ _⟩ ?a1 ?assign ?body ?done ?stop
  case assign =>
    intro l v W K hK
    gi_wp2
    exact hK
  case body =>
    rintro l ys gb cg Wp W ⟨L, v, m, hIp⟩ hgp hge _ hf hgb hown
    have hI := hIp.kept (by omega) hgp (by omega) (.inl (by omega))
    have x0 : Boxed W w.heap.size 23 (.slice A n c) := (hI.below.block _ (by omega)).trans y0
    have c0 := x0.cell
    have c5 := hI.most.cell
    have hyl := hf.1
    have HS := Lib.hid (setsBy_n gb 0 cg ys W (by have := hown.rd; exact this) hf hn1 hn4)
    have hrW := h.below (hB0.trans (hI.below.mono (by omega)))
    have HI := Lib.hid hI
    have HF := Lib.hid hf
    have x5 := hI.most
    have hx4 := Lib.hid hI.best
    have HGL := Lib.hid hown.lt
    obtain ⟨p, hp⟩ : ∃ p, p = worthF ts ys := ⟨_, rfl⟩
    have HP := Lib.hid hp
    have HWB := Lib.hid (fun (g2 c2 : Nat) (w2 : World) (hr : RdR w2 A c ts) (hrd : Rd w2 (some ⟨g2, 0, none⟩) c2 (setsF ys n)) => worthBy_any A (some ⟨g2, 0, none⟩) c c2 n ts ys w2 hr HV.out.2 hrd HN.out hn4)
    rw [← hp] at HWB
    rw [hyl]
    clear hIp hgp hge hI hf hown hyl hp
    have x4 := hx4.out
    have hgl := HGL.out
    have hR : W0.heap.size + 3 ≤ W.heap.size := by omega
    by_cases hlt : m < p
    · gi_wp2_with fail
      refine ⟨trivial, ?_⟩
      gi_at_call 102
      refine (CallsIn.inRound l (callsIn_wide.2 HS.out)).mono ?_
      rintro e w2 ⟨g2, c2, rfl, o2, b2⟩
      have x02 : Boxed w2 w.heap.size 23 (.slice A n c) := (b2.block _ x0.lt).trans x0
      have x42 : Boxed w2 w1.heap.size 24 v := (b2.block _ x4.lt).trans x4
      have x52 : Boxed w2 (w1.heap.size + 1) 3 (.int .i64 m) := (b2.block _ x5.lt).trans x5
      have c02 := x02.cell
      gi_wp2_with (refine ⟨trivial, ?_⟩; gi_at_call 103; refine (CallsIn.inRound l (callsIn_wide.2 (HWB.out _ _ _ (hrW.below b2) o2.rd))).mono ?_; rintro e w3 ⟨rfl, k3, rfl⟩; have x43 : Boxed (w2.drewN k3) w1.heap.size 24 v := x42; have x53 : Boxed (w2.drewN k3) (w1.heap.size + 1) 3 (.int .i64 m) := x52; have z5 := x53.other (B' := w1.heap.size) (by omega) (.slice (some ⟨g2, 0, none⟩) n c2); have c43 := x43.cell; have f43 := x43.frozen; have c53 := x53.cell; have cz5 := z5.cell; have fz5 := z5.frozen)
      have hg2 := o2.ge
      have B3 := below_drewN' b2 k3
      refine ⟨(keeps_of_below B3).trans ((KeepsOthers.setCell _ _ _).trans (KeepsOthers.setCell _ _ _)), fun k hk => ?_, L ++ [ys], _, _, (x43.set _).other (by omega) _, z5.set _, ?_, HI.out.done.step HF.out, ((HI.out.below.trans (B3.mono (by omega))).setCell (Nat.le_refl _) _).setCell (by show w1.heap.size ≤ w1.heap.size + 1; omega) _⟩
      · rw [Below.heap_setCell _ _ _ k (by simp; omega), Below.heap_setCell _ _ _ k (by simp; omega)]
        exact B3.block k (by omega)
      · rw [HP.out]
        refine HI.out.at_.take (by rw [← HP.out]; exact hlt) ?_
        exact World.ownsRow.kept (World.ownsRow.kept ((o2.drewN k3).rebase (B' := W0.heap.size + 3) (by omega)) (grow_set _ w1.heap.size 0 _) (.inr (by simp [Value.ownBlock]; omega))) (grow_set _ (w1.heap.size + 1) 0 _) (.inr (by simp [Value.ownBlock]; omega))
    · gi_wp2_with fail
      refine ⟨trivial, ?_⟩
      gi_at_call 102
      refine (CallsIn.inRound l (callsIn_wide.2 HS.out)).mono ?_
      rintro e w2 ⟨g2, c2, rfl, o2, b2⟩
      have x02 : Boxed w2 w.heap.size 23 (.slice A n c) := (b2.block _ x0.lt).trans x0
      have x52 : Boxed w2 (w1.heap.size + 1) 3 (.int .i64 m) := (b2.block _ x5.lt).trans x5
      have c02 := x02.cell
      gi_wp2_with (refine ⟨trivial, ?_⟩; gi_at_call 103; refine (CallsIn.inRound l (callsIn_wide.2 (HWB.out _ _ _ (hrW.below b2) o2.rd))).mono ?_; rintro e w3 ⟨rfl, k3, rfl⟩; have x53 : Boxed (w2.drewN k3) (w1.heap.size + 1) 3 (.int .i64 m) := x52; have c53 := x53.cell)
      have B3 := below_drewN' b2 k3
      exact ⟨keeps_of_below B3, fun k hk => B3.block k (by omega), _, _, _, (HI.out.same B3 (by omega)).skip HV.out.2 HF.out (by rw [← HP.out]; omega)⟩
  case done =>
    rintro D W hD ⟨L, v, m, hI⟩ hK
    have hc4 := hI.best.cell
    have hc5 := hI.most.cell
    gi_wp2_with fail
    gi_region
    gi_wp2
    have hK2 : W.drew.heap[D]? = some (.deferred (some [])) := hK
    refine ⟨by simp, .inl ⟨_, _, rfl, run_takeDeferred hK2, ?_⟩⟩
    have hI1 : BstI W0 ts n w1.heap.size (W0.heap.size + 3) L v m none W.drew := hI.same (below_drewN' (Below.refl _ _) 1) (by omega)
    have hI2 := hI1.kept (by omega) (grownBy_putObj' W.drew D (.deferred none)) (by omega) (.inr ⟨_, hK2, rfl⟩)
    have hd : allF (n : Int) (List.replicate 3 0) = L := hI2.done
    rcases hI2.at_ with ⟨h1, _⟩ | ⟨b, g, c2, h1, rfl, h3, h4⟩
    · exact absurd (hd.trans h1) (allF_ne n)
    · have hw := wayF_is ts
      rw [HN.out, hd, h1] at hw
      injection hw with hw
      subst hw
      have hlen := setsF_len' (wayF ts) n
      have hB : BsIs w ts (.returned (.tuple #[.slice (some ⟨g, 0, none⟩) n c2, .int .i64 m])) (W.drew.putObj D (.deferred none)) :=
        ⟨some ⟨g, 0, none⟩, c2, setsF (wayF ts) n, m, by rw [hlen], h3.rebase (by have := (World.ownsRow.lt h3 g rfl).1; omega), hB0.trans (hI2.below.mono (by omega)), .inl ⟨HV.out, by rw [HN.out], h4⟩⟩
      exact ⟨_, results_tmp2 (t := 2) (u := 3) rfl _ _ _, hB⟩
  case stop =>
    rintro D W _ h _
    exact h.elim

set_option maxHeartbeats 1600000 in
theorem BestSplit_no (A : Option Addr) (c n : Nat) (ts : List (List Int)) (w : World) (hn : ts.length = n) (h : RdR w A c ts) (hl2 : ∀ r ∈ ts, r.length ≤ 1099511627776) (hv : ¬ VTs ts) :
    Calls Try.prog 45 #[.slice A n c] w (BsIs w ts) := by
  have B1 : Below w.heap.size w (w.alloc (.cells #[.slice A n c] 23)) := (Below.refl _ w).alloc (Nat.le_refl _) _
  have HC : Hid (Calls Try.prog 97 #[.slice A n c] (w.alloc (.cells #[.slice A n c] 23)) fun e w' => e = .returned (.bool false) ∧ Below (w.alloc (.cells #[.slice A n c] 23)).heap.size (w.alloc (.cells #[.slice A n c] 23)) w') :=
    Lib.hid (by have := areTables_any A c ts _ (h.below B1) hl2; rw [vtsB_false hv, hn] at this; exact this)
  have HV := Lib.hid hv
  clear hn hv
  go_enter Try.func45, Try.ntmps45
  go_wp2_with fail
  refine HC.out.mono ?_
  rintro e w1 ⟨rfl, b1⟩
  go_wp2
  go_ret2
  exact ⟨none, 0, [], -1, rfl, own_none _ _, B1.trans (b1.mono B1.size), .inr ⟨HV.out, rfl, rfl⟩⟩

theorem BestSplit_any (A : Option Addr) (c : Nat) (ts : List (List Int)) (w : World) (h : RdR w A c ts) (hl2 : ∀ r ∈ ts, r.length ≤ 1099511627776) :
    Calls Try.prog 45 #[.slice A ts.length c] w (BsIs w ts) := by
  by_cases hv : VTs ts
  · exact BestSplit_yes A c _ ts w rfl h hl2 hv
  · exact BestSplit_no A c _ ts w rfl h hl2 hv

end Go.Proofs.Ytfjncipekjnbjaa

/-
  The laws of chapter 7: tables and prices drawn.
-/
namespace Go.Proofs.Ytfjncipekjnbjaa
open Go.RowKit Go.Lib

/-- What is drawn: tables and prices. -/
def DrawnTsP (w : World) (e : Ending) (w' : World) : Prop :=
  ∃ (A : Option Addr) (c : Nat) (rows : List (List Int)) (B : Option Addr) (d : Nat) (p : List Int), e = .returned (.tuple #[.slice A rows.length c, .slice B p.length d]) ∧ RdR w' A c rows ∧ Rd w' B d p ∧ rows.length ≤ 4 ∧ (∀ r ∈ rows, r.length ≤ 8) ∧ p.length ≤ 3 ∧ Below w.heap.size w w'

theorem RowsU.rdr_at {w : World} {B c : Nat} {A : Option Addr} {ps : List (Nat × Nat × List Int)} {rows : List (List Int)} (h : RowsU w B (.slice A rows.length c) ps) (hr : ps.map (·.2.2) = rows) : RdR w A c rows := by
  obtain ⟨A', c', he, hR⟩ := h.rdr hr
  injection he with h1 _ h3
  subst h1 h3
  exact hR

set_option maxHeartbeats 4000000 in
set_option maxRecDepth 100000 in
theorem DrawIsClear_any (A : Option Addr) (c : Nat) (xs : List Int) (w : World) (h : Came .u8 w A c xs) :
    Calls Try.prog 41 #[.slice A xs.length c] w (DrawnTsP w) := by
  go_enter Try.func41, Try.ntmps41
  go_wp2_with fail
  refine (newReader_any A c xs w h).mono ?_
  rintro e w1 ⟨rb, rfl, hrb, hr1, hb1⟩
  go_wp2_with fail
  refine (easyTables_any rb 0 w1 hr1 (by decide)).mono ?_
  rintro e w2 ⟨v, ps, rfl, R2, hp4, hp8, hr2, hg2⟩
  have hl1 := hr1.lt
  have B2 := hb1.trans (gb_below hg2 hb1.size hrb)
  clear hg2
  go_wp2_with fail
  refine (pick_any rb (0 + 170) 2 w2 hr2 (by decide) (by decide) (by decide)).mono ?_
  rintro e w3 ⟨m, rfl, _, _, hr3, hg3⟩
  have R3 := R2.ask hg3 hl1
  have B3 := B2.trans (gb_below hg3 B2.size hrb)
  clear hg3 R2 hr2 B2
  by_cases hm : m = 0
  · have hmb : (m == 0) = true := by simpa using hm
    clear hm
    go_wp2_with fail
    refine (someTables_any rb (0 + 170 + 1) w3 hr3 (by decide)).mono ?_
    rintro e w4 ⟨v4, ps4, rfl, R4, hq4, hq8, hr4, hg4⟩
    have B4 := B3.trans (gb_below hg4 B3.size hrb)
    have hs3 := B3.size
    have hl4 : rb < w3.heap.size := hr3.lt
    clear hg4 B3 R3 hr3 hp4 hp8 hmb
    go_wp2_with fail
    refine (somePrices_any rb (0 + 170 + 1 + 170) w4 hr4 (by decide)).mono ?_
    rintro e w5 ⟨g3, off, c3, p, rfl, hp, _, r5, _, hg3, hg3', hr5, hgg5⟩
    have R5 := R4.ask hgg5 hl4
    have B5 := B4.trans (gb_below hgg5 B4.size hrb)
    have hpl : p.length ≤ 3 := by omega
    have hl44 := hr4.lt
    have hne : g3 ≠ rb := by omega
    clear hgg5 R4 hr4 B4 hp
    go_wp2_with fail
    refine (pick_any rb ((0 + 170 + 1 + 170) + 6) 2 w5 hr5 (by decide) (by decide) (by decide)).mono ?_
    rintro e w6 ⟨m6, rfl, _, _, hr6, hg6⟩
    have R6 := R5.ask hg6 hl4
    have B6 := B5.trans (gb_below hg6 B5.size hrb)
    have r6 : Rd w6 (some ⟨g3, off, none⟩) c3 p := r5.keepb (hg6.block g3 hg3' (fun e => hne (Option.some.inj e)))
    clear hg6 R5 hr5 B5 r5
    have H8 := Lib.hid (eight_map hq4 hq8)
    obtain ⟨rows, hrows⟩ : ∃ rows, rows = ps4.map (·.2.2) := ⟨_, rfl⟩
    obtain ⟨A2, c2, rfl, hR⟩ := R6.rdr hrows.symm
    rw [← hrows] at H8
    have hl4r := H8.out.1
    have hl8' : ∀ r ∈ rows, r.length ≤ 1099511627776 := fun r hr => by have := H8.out.2 r hr; omega
    have HRW := Lib.hid hrows.symm
    have HR6 := Lib.hid R6
    clear hrows R6 hq4 hq8
    by_cases h6 : m6 = 0
    · have hmb6 : (m6 == 0) = true := by simpa using h6
      have HV := Lib.hid (SvalidTables_any A2 c2 rows w6 hR (by omega) hl8')
      rcases hv : vtsB rows with _ | _
      · rw [hv] at HV
        clear h6 hv
        go_wp2_with fail
        refine HV.out.mono ?_
        rintro e w7 ⟨rfl, n7, rfl⟩
        go_wp2
        go_ret2
        exact ⟨A2, c2, rows, _, _, p, rfl, hR.drewN n7, r6.drewN n7, hl4r, H8.out.2, hpl, below_drewN' B6 n7⟩
      · rw [hv] at HV
        have HC := Lib.hid (fun W (hW : RdR W A2 c2 rows) => SClimbPrices_any A2 c2 rows W hW (by omega) hl8')
        have HM := Lib.hid (fun W (hW : RdR W A2 c2 rows) => SMostPrices_any A2 c2 rows W hW (by omega) hl8')
        clear h6 hv
        go_wp2_with fail
        refine HV.out.mono ?_
        rintro e w7 ⟨rfl, n7, rfl⟩
        have hR7 := hR.drewN n7
        have B7 := below_drewN' B6 n7
        have hr7 := hr6.below (below_drewN' (Below.refl _ _) n7)
        have HR7 := Lib.hid (HR6.out.below (below_drewN' (Below.refl _ _) n7))
        have hl7 : rb < w6.heap.size := hr6.lt
        clear r6 HV B6 hR hr6 HR6
        go_wp2_with fail
        refine (HC.out _ hR7).mono ?_
        rintro e w8 ⟨A8, c8, rfl, o8, b8⟩
        have hR8 := hR7.below b8
        have hr8 := hr7.below b8
        have B8 := B7.trans (b8.mono B7.size)
        have hcl := cpL_len rows
        have HR8 := Lib.hid (HR7.out.below b8)
        clear b8 hR7 B7 HR7
        go_wp2_with fail
        refine (pick_any rb ((0 + 170 + 1 + 170) + 6 + 1) 3 w8 hr8 (by decide) (by decide) (by decide)).mono ?_
        rintro e w9 ⟨m9, rfl, _, _, hr9, hg9⟩
        have B9 := B8.trans (gb_below hg9 B8.size hrb)
        have hR9 := (HR8.out.ask hg9 hl4).rdr_at HRW.out
        have o9 := o8.kept_ (A2 := some ⟨rb, 0, none⟩) hg9 (.inr (fun e => by have h1 : w6.heap.size ≤ rb := (own_blk (k := rb) o8 e).1; omega))
        clear hg9 B8 hr8 hR8 o8 HR8
        by_cases h9 : m9 = 0
        · have hmb9 : (m9 == 0) = true := by simpa using h9
          clear h9
          go_wp2_with fail
          refine (HM.out _ hR9).mono ?_
          rintro e w10 ⟨A10, c10, rfl, o10, b10⟩
          go_wp2
          go_ret2
          exact ⟨A2, c2, rows, A10, c10, mpL rows, rfl, hR9.below b10, o10.rd, hl4r, H8.out.2, mpL_len rows, B9.trans (b10.mono B9.size)⟩
        · have hmb9 : (m9 == 0) = false := by simpa using h9
          clear h9
          go_wp2
          go_ret2
          exact ⟨A2, c2, rows, A8, c8, cpL rows, rfl, hR9, o9.rd, hl4r, H8.out.2, hcl, B9⟩
    · have hmb6 : (m6 == 0) = false := by simpa using h6
      clear h6
      go_wp2
      go_ret2
      exact ⟨A2, c2, rows, _, _, p, rfl, hR, r6, hl4r, H8.out.2, hpl, B6⟩
  · have hmb : (m == 0) = false := by simpa using hm
    clear hm
    obtain ⟨w4, hw4⟩ : ∃ w4, w4 = w3 := ⟨_, rfl⟩
    obtain ⟨ps4, hps⟩ : ∃ ps4, ps4 = ps := ⟨_, rfl⟩
    have R4 := R3
    have hr4 := hr3
    have B4 := B3
    have hq4 := hp4
    have hq8 := hp8
    have hl4 := hl1
    rw [← hps] at R4 hq4 hq8
    rw [← hw4] at R4 hr4 B4 ⊢
    clear R3 hr3 B3 hp4 hp8 hps hw4
    go_wp2_with fail
    refine (somePrices_any rb (0 + 170 + 1) w4 hr4 (by decide)).mono ?_
    rintro e w5 ⟨g3, off, c3, p, rfl, hp, _, r5, _, hg3, hg3', hr5, hgg5⟩
    have R5 := R4.ask hgg5 hl4
    have B5 := B4.trans (gb_below hgg5 B4.size hrb)
    have hpl : p.length ≤ 3 := by omega
    have hl44 := hr4.lt
    have hne : g3 ≠ rb := by omega
    clear hgg5 R4 hr4 B4 hp
    go_wp2_with fail
    refine (pick_any rb ((0 + 170 + 1) + 6) 2 w5 hr5 (by decide) (by decide) (by decide)).mono ?_
    rintro e w6 ⟨m6, rfl, _, _, hr6, hg6⟩
    have R6 := R5.ask hg6 hl4
    have B6 := B5.trans (gb_below hg6 B5.size hrb)
    have r6 : Rd w6 (some ⟨g3, off, none⟩) c3 p := r5.keepb (hg6.block g3 hg3' (fun e => hne (Option.some.inj e)))
    clear hg6 R5 hr5 B5 r5
    have H8 := Lib.hid (eight_map hq4 hq8)
    obtain ⟨rows, hrows⟩ : ∃ rows, rows = ps4.map (·.2.2) := ⟨_, rfl⟩
    obtain ⟨A2, c2, rfl, hR⟩ := R6.rdr hrows.symm
    rw [← hrows] at H8
    have hl4r := H8.out.1
    have hl8' : ∀ r ∈ rows, r.length ≤ 1099511627776 := fun r hr => by have := H8.out.2 r hr; omega
    have HRW := Lib.hid hrows.symm
    have HR6 := Lib.hid R6
    clear hrows R6 hq4 hq8
    by_cases h6 : m6 = 0
    · have hmb6 : (m6 == 0) = true := by simpa using h6
      have HV := Lib.hid (SvalidTables_any A2 c2 rows w6 hR (by omega) hl8')
      rcases hv : vtsB rows with _ | _
      · rw [hv] at HV
        clear h6 hv
        go_wp2_with fail
        refine HV.out.mono ?_
        rintro e w7 ⟨rfl, n7, rfl⟩
        go_wp2
        go_ret2
        exact ⟨A2, c2, rows, _, _, p, rfl, hR.drewN n7, r6.drewN n7, hl4r, H8.out.2, hpl, below_drewN' B6 n7⟩
      · rw [hv] at HV
        have HC := Lib.hid (fun W (hW : RdR W A2 c2 rows) => SClimbPrices_any A2 c2 rows W hW (by omega) hl8')
        have HM := Lib.hid (fun W (hW : RdR W A2 c2 rows) => SMostPrices_any A2 c2 rows W hW (by omega) hl8')
        clear h6 hv
        go_wp2_with fail
        refine HV.out.mono ?_
        rintro e w7 ⟨rfl, n7, rfl⟩
        have hR7 := hR.drewN n7
        have B7 := below_drewN' B6 n7
        have hr7 := hr6.below (below_drewN' (Below.refl _ _) n7)
        have HR7 := Lib.hid (HR6.out.below (below_drewN' (Below.refl _ _) n7))
        have hl7 : rb < w6.heap.size := hr6.lt
        clear r6 HV B6 hR hr6 HR6
        go_wp2_with fail
        refine (HC.out _ hR7).mono ?_
        rintro e w8 ⟨A8, c8, rfl, o8, b8⟩
        have hR8 := hR7.below b8
        have hr8 := hr7.below b8
        have B8 := B7.trans (b8.mono B7.size)
        have hcl := cpL_len rows
        have HR8 := Lib.hid (HR7.out.below b8)
        clear b8 hR7 B7 HR7
        go_wp2_with fail
        refine (pick_any rb ((0 + 170 + 1) + 6 + 1) 3 w8 hr8 (by decide) (by decide) (by decide)).mono ?_
        rintro e w9 ⟨m9, rfl, _, _, hr9, hg9⟩
        have B9 := B8.trans (gb_below hg9 B8.size hrb)
        have hR9 := (HR8.out.ask hg9 hl4).rdr_at HRW.out
        have o9 := o8.kept_ (A2 := some ⟨rb, 0, none⟩) hg9 (.inr (fun e => by have h1 : w6.heap.size ≤ rb := (own_blk (k := rb) o8 e).1; omega))
        clear hg9 B8 hr8 hR8 o8 HR8
        by_cases h9 : m9 = 0
        · have hmb9 : (m9 == 0) = true := by simpa using h9
          clear h9
          go_wp2_with fail
          refine (HM.out _ hR9).mono ?_
          rintro e w10 ⟨A10, c10, rfl, o10, b10⟩
          go_wp2
          go_ret2
          exact ⟨A2, c2, rows, A10, c10, mpL rows, rfl, hR9.below b10, o10.rd, hl4r, H8.out.2, mpL_len rows, B9.trans (b10.mono B9.size)⟩
        · have hmb9 : (m9 == 0) = false := by simpa using h9
          clear h9
          go_wp2
          go_ret2
          exact ⟨A2, c2, rows, A8, c8, cpL rows, rfl, hR9, o9.rd, hl4r, H8.out.2, hcl, B9⟩
    · have hmb6 : (m6 == 0) = false := by simpa using h6
      clear h6
      go_wp2
      go_ret2
      exact ⟨A2, c2, rows, _, _, p, rfl, hR, r6, hl4r, H8.out.2, hpl, B6⟩

end Go.Proofs.Ytfjncipekjnbjaa

/-
  The laws of chapter 7: the walk of FnIsClear.
-/
namespace Go.Proofs.Ytfjncipekjnbjaa
open Go.RowKit Go.Lib

theorem lo_worth {rows : List (List Int)} {p : List Int} {m : Int} (hL : 0 ≤ loB rows p) (hm : (VTs rows ∧ m = sv rows 7) ∨ ¬ VTs rows) : isB rows p = (loB rows p == m) := by
  rcases h1 : vtsB rows with _ | _
  · rw [loB_no (by rw [h1]; rfl)] at hL; omega
  · rcases h2 : vp p with _ | _
    · rw [loB_no (by rw [h2]; simp)] at hL; omega
    · rw [loB_yes h1 h2]
      have hv := vtsB_iff.1 h1
      rcases hm with ⟨_, rfl⟩ | hn
      · rw [Bool.eq_iff_iff]
        unfold isB
        rw [h1, h2]
        simp [icB_iff]
      · exact absurd hv hn

set_option maxHeartbeats 4000000 in
set_option maxRecDepth 100000 in
theorem fnIsClear_walk {A : Option Addr} {c : Nat} {xs : List Int} {w : World} (h : Came .u8 w A c xs) :
    Calls Try.prog 9 #[.slice A xs.length c] w fun e w' => e = .returned (.bool true) ∧ Below w.heap.size w w' := by
  by_cases hlen : 1048576 < xs.length
  · go_enter Try.func9, Try.ntmps9
    go_wp2
    go_ret
    exact ⟨rfl, Below.refl _ _⟩
  have hl1 : xs.length ≤ 1048576 := by omega
  have HD := Lib.hid (DrawIsClear_any A c xs w h)
  clear hlen h
  go_enter Try.func9, Try.ntmps9
  go_wp2_with fail
  refine HD.out.mono ?_
  rintro e w1 ⟨A1, c1, rows, B1, d1, p, rfl, hR, hP, hl4, hl8, hp3, b1⟩
  have hl8' : ∀ r ∈ rows, r.length ≤ 1099511627776 := fun r hr => by have := hl8 r hr; omega
  have HS := Lib.hid (fun w' (h : RdR w' A1 c1 rows) (g : Rd w' B1 d1 p) => SIsClear_any A1 B1 c1 d1 rows p w' h g (by omega) hl8' (by omega))
  have HI := Lib.hid (fun w' (h : RdR w' A1 c1 rows) (g : Rd w' B1 d1 p) => IsClear_any A1 B1 c1 d1 rows p w' h g hl8')
  have HL := Lib.hid (fun w' (h : RdR w' A1 c1 rows) (g : Rd w' B1 d1 p) => LoadAt_any A1 B1 c1 d1 rows p w' h g hl8')
  have HB := Lib.hid (fun w' (h : RdR w' A1 c1 rows) => BestSplit_any A1 c1 rows w' h hl8')
  have HW := Lib.hid (fun m (hL : 0 ≤ loB rows p) => lo_worth (rows := rows) (p := p) (m := m) hL)
  obtain ⟨v, hv⟩ : ∃ v, v = isB rows p := ⟨_, rfl⟩
  obtain ⟨L, hL⟩ : ∃ L, L = loB rows p := ⟨_, rfl⟩
  rw [← hv] at HS HI HW
  rw [← hL] at HL HW
  have hvv : (v != v) = false := by simp
  have hve : (v == v) = true := by simp
  clear hv hL HD hl8 hl8' hl1
  go_wp2_with fail
  refine (HI.out w1 hR hP).mono ?_
  rintro e w2 ⟨rfl, b2⟩
  have B2 := below_then b1 b2
  have hR2 := hR.below b2
  have hP2 := hP.below b2
  clear b1 b2 hR hP
  go_wp2_with fail
  refine (HS.out w2 hR2 hP2).mono ?_
  rintro e w3 ⟨rfl, b3⟩
  have B3 := below_then B2 b3
  have hR3 := hR2.below b3
  have hP3 := hP2.below b3
  clear B2 b3 hR2 hP2
  go_wp2_with fail
  refine (HL.out w3 hR3 hP3).mono ?_
  rintro e w4 ⟨rfl, b4⟩
  have B4 := below_then B3 b4
  have hR4 := hR3.below b4
  have hP4 := hP3.below b4
  clear B3 b4 hR3 hP3
  by_cases hn : L < 0
  · go_wp2_with fail
    refine (HS.out w4 hR4 hP4).mono ?_
    rintro e w5 ⟨rfl, b5⟩
    have B5 := below_then B4 b5
    go_wp2
    go_ret
    exact ⟨rfl, B5⟩
  · have hn0 : 0 ≤ L := by omega
    go_wp2_with fail
    refine (HB.out w4 hR4).mono ?_
    rintro e w5 ⟨A5, c5, ys, m, rfl, o5, b5, hor⟩
    have B5 := below_then B4 b5
    have hR5 := hR4.below b5
    have hP5 := hP4.below b5
    have HVM := Lib.hid (HW.out m hn0 (by
      rcases hor with ⟨hv, _, hm⟩ | ⟨hv, _⟩
      · exact .inl ⟨hv, by rw [hm]; exact wayF_worth (fun t ht => (hv.2 t ht).2.1) hv.1.2⟩
      · exact .inr hv))
    clear B4 b5 hR4 hP4 o5 hor
    go_wp2_with fail
    refine (HL.out w5 hR5 hP5).mono ?_
    rintro e w6 ⟨rfl, b6⟩
    have B6 := below_then B5 b6
    go_wp2
    go_ret
    exact ⟨by rw [HVM.out]; simp, B6⟩

end Go.Proofs.Ytfjncipekjnbjaa
