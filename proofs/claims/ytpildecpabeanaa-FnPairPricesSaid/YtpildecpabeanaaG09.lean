/-
  Chapter 8, the program: pairs in memory as a list of pointers, and where they lie.
-/
import Derived.Test.YtpildecpabeanaaIa
import Derived.Test.YtpildecpabeanaaMem
namespace Go.Proofs.Ytpildecpabeanaa
open Go.RowKit

/-- The k-th pointer leads to the k-th pair, from the block N on. -/
def PVn (N : Nat) (w : World) (vs : List Value) (ts : List (Int × Int)) (k : Nat) : Prop := vs.length = k ∧ ∀ (i : Nat) (t : Int × Int), i < k → ts[i]? = some t → ∃ b, vs[i]? = some (.pointer (some ⟨b, 0, none⟩)) ∧ N ≤ b ∧ w.cell? ⟨b, 0, none⟩ = some (.int .i64 t.1) ∧ w.cell? ⟨b, 1, none⟩ = some (.int .i64 t.2)
theorem PVn.more {N : Nat} {w : World} {vs : List Value} {ts : List (Int × Int)} {k b : Nat} {t : Int × Int} (h : PVn N w vs ts k) (hN : N ≤ b) (ht : ts[k]? = some t) (h0 : w.cell? ⟨b, 0, none⟩ = some (.int .i64 t.1)) (h1 : w.cell? ⟨b, 1, none⟩ = some (.int .i64 t.2)) : PVn N w (vs ++ [.pointer (some ⟨b, 0, none⟩)]) ts (k + 1) := by
  refine ⟨by simp [h.1], fun i x hi hx => ?_⟩
  rcases Nat.lt_or_ge i k with hlt | hge
  · obtain ⟨b', e1, e2⟩ := h.2 i x hlt hx
    exact ⟨b', by rw [List.getElem?_append_left (by rw [h.1]; exact hlt)]; exact e1, e2⟩
  · obtain rfl : i = k := by omega
    rw [ht] at hx; cases hx
    exact ⟨b, by rw [List.getElem?_append_right (by rw [h.1]; exact Nat.le_refl _), h.1]; simp, hN, h0, h1⟩

/-- A new list of pointers. -/
def New2P (N : Nat) (W0 w : World) (ts : List (Int × Int)) (e : Ending) (w' : World) : Prop :=
  ∃ v vs, e = .returned v ∧ w'.ownsRow w.heap.size 88 1 v ts.length vs ∧ PVn N W0 vs ts ts.length ∧ Below w.heap.size w w'

set_option maxRecDepth 100000 in
set_option maxHeartbeats 1000000 in
theorem listed2_any (N : Nat) (W0 : World) (ts : List (Int × Int)) (v : Value) (w : World) (h : PLn N W0 v ts) (hB0 : Below W0.heap.size W0 w) (hl : ts.length ≤ 4) :
    Calls Try.prog 100 #[v] w (New2P N W0 w ts) := by
  have HB0 := Lib.hid hB0
  clear hB0
  obtain ⟨i0, hi, hz0, hz1, hz2⟩ := info_parts ptr_info
  go_enter Try.func100, Try.ntmps100
  go_wp2
  go_loopw [0, 3] (fun p all wr => ∃ (k : Nat) (vs : List Value) (A : Option Addr) (c : Nat), k ≤ ts.length ∧ all = .slice A k c ∧ Hid (wr.ownsRow w.heap.size 88 1 (.slice A k c) k vs) ∧ Hid (PVn N W0 vs ts k) ∧ Hid (PLn N W0 p (ts.drop k)) ∧ Hid (Below w.heap.size w wr)) (fun _ all _ => 4 - lnOf all)
  case atStart => exact ⟨0, [], none, 0, Nat.zero_le _, rfl, Lib.hid (World.ownsRow_nil _ _ _ _), Lib.hid ⟨rfl, fun i t hi => absurd hi (by omega)⟩, Lib.hid h, Lib.hid (Below.refl _ _)⟩
  case round =>
    obtain ⟨k, vs, A, c, hk, rfl, HO, HV, HP, HB⟩ := hrel
    by_cases hlt : k < ts.length
    · have ht : ts[k]? = some ts[k] := List.getElem?_eq_getElem hlt
      have hp := HP.out
      rw [List.drop_eq_getElem_cons hlt] at hp
      obtain ⟨b, rest, hpe, hNb, h0, h1, h2, hr⟩ := hp
      subst hpe
      have hb1 := (Below.refl wr.heap.size wr).alloc (Nat.le_refl _) (.cells #[.pointer (some ⟨b, 0, none⟩)] 88)
      have HT := Lib.hid (own_len HO.out hb1)
      have hb63 : k + 1 ≤ maxLen := by unfold maxLen; omega
      have HM := Lib.hid hb63
      have HSZ : Hid (w.heap.size ≤ (wr.alloc (.cells #[.pointer (some ⟨b, 0, none⟩)] 88)).heap.size) := Lib.hid (Nat.le_trans HB.out.size hb1.size)
      have HB1 := Lib.hid hb1
      have HR := Lib.hid hr
      have HM0 := Lib.hid (HV.out.more hNb ht h0 h1)
      have H2 := Lib.hid h2
      clear h1 h0 h2 hr hb63 hb1 ht HP
      go_wp2_with (at_builtin; (refine wpList_append_own _ rfl _ _ 90 rfl w.heap.size 88 i0 (.pointer none) 1 8 Try.underlying90 hi hz0 hz1 hz2 rfl (by decide) (.slice A k c) k vs rfl HT.out ⟨wr.heap.size, 0, none⟩ 1 1 [.pointer (some ⟨b, 0, none⟩)] rfl rfl (cell_one_new _ _ _) (by simp [Value.oneCell']) HM.out (by omega) HSZ.out ?_; intro v5 w5 hown5 hg5 _; have HB5 : Hid (Below w.heap.size w w5) := Lib.hid ((HB.out.trans (HB1.out.mono HB.out.size)).grown hg5 HSZ.out (fun q e => (World.ownsRow.lt HO.out q e).1)); have hc5 := ((HB0.out.trans (HB5.out.mono HB0.out.size)).cell (p := ⟨b, 2, none⟩) (World.block_lt_of_cell? W0 _ H2.out)).trans H2.out; obtain ⟨A5, c5, hv5⟩ := row_shape hown5; subst hv5; have HO5 := Lib.hid hown5; clear hown5 hg5))
      go_roundw
      case rel => exact ⟨k + 1, vs ++ [.pointer (some ⟨b, 0, none⟩)], A5, c5, hlt, rfl, HO5, HM0, HR, HB5⟩
      case measure => simp [lnOf]; omega
    · obtain rfl : k = ts.length := by omega
      have hp := HP.out
      rw [List.drop_length] at hp
      obtain rfl : u0 = .pointer none := hp
      clear HP
      go_wp2
      go_ret
      exact ⟨_, vs, rfl, HO.out, HV.out, HB.out⟩
end Go.Proofs.Ytpildecpabeanaa

/-
  Plain words for tables of sets of things: what is a table, what bidders have of a set at best, who has what.
-/
namespace Go.Proofs.Ytpildecpabeanaa

/-- Entry s of a table. -/
def T (t : List Int) (s : Nat) : Int := t.getD s 0

/-- A table. -/
def VT (t : List Int) : Prop := t.length = 8 ∧ T t 0 = 0 ∧ ∀ s, s < 8 → (0 ≤ T t s ∧ T t s ≤ 30) ∧ ∀ j, j < 3 → s / 2 ^ j % 2 = 0 → T t s ≤ T t (s + 2 ^ j)

theorem nat3 {j : Nat} (h : j < 3) : j = 0 ∨ j = 1 ∨ j = 2 := by omega
theorem nat8 {s : Nat} (h : s < 8) : s = 0 ∨ s = 1 ∨ s = 2 ∨ s = 3 ∨ s = 4 ∨ s = 5 ∨ s = 6 ∨ s = 7 := by omega

/-- The greatest worth of what is one thing less, of the first k things. -/
def blTo (t : List Int) (s : Nat) : Nat → Int
  | 0 => 0
  | k + 1 => if s / 2 ^ k % 2 = 1 then max (blTo t s k) (T t (s - 2 ^ k)) else blTo t s k
def bl (t : List Int) (s : Nat) : Int := blTo t s 3

/-- What the program asks of a set. -/
def okI (t : List Int) (s : Nat) : Prop := (0 ≤ T t s ∧ T t s ≤ 30) ∧ bl t s ≤ T t s
/-- What the model asks of a set. -/
def okS (t : List Int) (s : Nat) : Prop := (0 ≤ T t s ∧ T t s ≤ 30) ∧ ∀ j, j < 3 → s / 2 ^ j % 2 = 0 → T t s ≤ T t (s + 2 ^ j)

theorem VT.toS {t : List Int} (h : VT t) {s : Nat} (hs : s < 8) : okS t s := h.2.2 s hs

/-- A table, number by number. -/
theorem VT.all {t : List Int} (h : VT t) : (T t 0 = 0) ∧ (0 ≤ T t 1 ∧ T t 1 ≤ 30) ∧ (0 ≤ T t 2 ∧ T t 2 ≤ 30) ∧ (0 ≤ T t 3 ∧ T t 3 ≤ 30) ∧ (0 ≤ T t 4 ∧ T t 4 ≤ 30) ∧ (0 ≤ T t 5 ∧ T t 5 ≤ 30) ∧ (0 ≤ T t 6 ∧ T t 6 ≤ 30) ∧ (0 ≤ T t 7 ∧ T t 7 ≤ 30) ∧
    T t 1 ≤ T t 3 ∧ T t 1 ≤ T t 5 ∧ T t 2 ≤ T t 3 ∧ T t 2 ≤ T t 6 ∧ T t 3 ≤ T t 7 ∧ T t 4 ≤ T t 5 ∧ T t 4 ≤ T t 6 ∧ T t 5 ≤ T t 7 ∧ T t 6 ≤ T t 7 := by
  obtain ⟨_, h0, h⟩ := h
  have b := fun s hs => (h s hs).1
  have m := fun s hs => (h s hs).2
  exact ⟨h0, b 1 (by omega), b 2 (by omega), b 3 (by omega), b 4 (by omega), b 5 (by omega), b 6 (by omega), b 7 (by omega),
    m 1 (by omega) 1 (by omega) (by decide), m 1 (by omega) 2 (by omega) (by decide), m 2 (by omega) 0 (by omega) (by decide), m 2 (by omega) 2 (by omega) (by decide), m 3 (by omega) 2 (by omega) (by decide),
    m 4 (by omega) 0 (by omega) (by decide), m 4 (by omega) 1 (by omega) (by decide), m 5 (by omega) 1 (by omega) (by decide), m 6 (by omega) 0 (by omega) (by decide)⟩
theorem bl_vals (t : List Int) : bl t 0 = 0 ∧ bl t 1 = max 0 (T t 0) ∧ bl t 2 = max 0 (T t 0) ∧ bl t 3 = max (max 0 (T t 2)) (T t 1) ∧ bl t 4 = max 0 (T t 0) ∧ bl t 5 = max (max 0 (T t 4)) (T t 1) ∧ bl t 6 = max (max 0 (T t 4)) (T t 2) ∧ bl t 7 = max (max (max 0 (T t 6)) (T t 5)) (T t 3) := by
  simp [bl, blTo]
theorem VT.toI {t : List Int} (h : VT t) {s : Nat} (hs : s < 8) : okI t s := by
  have a := h.all
  have b := bl_vals t
  refine ⟨(h.2.2 s hs).1, ?_⟩
  rcases nat8 hs with rfl | rfl | rfl | rfl | rfl | rfl | rfl | rfl <;> omega
theorem VT.of_okI {t : List Int} (hl : t.length = 8) (h0 : T t 0 = 0) (h : ∀ s, s < 8 → okI t s) : VT t := by
  refine ⟨hl, h0, fun s hs => ⟨(h s hs).1, fun j hj hb => ?_⟩⟩
  have b := bl_vals t
  have e := fun s hs => (h s hs).2
  have e3 := e 3 (by omega)
  have e5 := e 5 (by omega)
  have e6 := e 6 (by omega)
  have e7 := e 7 (by omega)
  have e1 := e 1 (by omega)
  have e2 := e 2 (by omega)
  have e4 := e 4 (by omega)
  have p1 := (h 1 (by omega)).1
  have p2 := (h 2 (by omega)).1
  have p4 := (h 4 (by omega)).1
  rcases nat8 hs with rfl | rfl | rfl | rfl | rfl | rfl | rfl | rfl <;> rcases nat3 hj with rfl | rfl | rfl <;> simp at hb ⊢ <;> omega
theorem VT.of_okS {t : List Int} (hl : t.length = 8) (h0 : T t 0 = 0) (h : ∀ s, s < 8 → okS t s) : VT t := ⟨hl, h0, h⟩

noncomputable def vt (t : List Int) : Bool := @decide (VT t) (Classical.propDecidable _)
theorem vt_true {t : List Int} (h : VT t) : vt t = true := by unfold vt; simp [h]
theorem vt_false {t : List Int} (h : ¬ VT t) : vt t = false := by unfold vt; simp [h]
theorem vt_iff {t : List Int} : vt t = true ↔ VT t := by unfold vt; simp
theorem T_of {t : List Int} {s : Nat} {x : Int} (h : t[s]? = some x) : T t s = x := by unfold T; rw [List.getD_eq_getElem?_getD, h]; rfl
theorem T_at {t : List Int} {s : Nat} (h : s < t.length) : t[s]? = some (T t s) := by unfold T; simp [h]

/-- The things of a set, of the first k. -/
def thTo (s : Nat) : Nat → List Int
  | 0 => []
  | k + 1 => if s / 2 ^ k % 2 = 1 then thTo s k ++ [(k : Int)] else thTo s k
def th (s : Nat) : List Int := thTo s 3


/-- The greatest of the values at a list, 0 if there is none above. -/
def mx (f : Nat → Int) (l : List Nat) : Int := l.foldl (fun m s => max m (f s)) 0
theorem mx_from (f : Nat → Int) (l : List Nat) : ∀ b : Int, b ≤ l.foldl (fun m s => max m (f s)) b ∧ (∀ s ∈ l, f s ≤ l.foldl (fun m s => max m (f s)) b) ∧ ∀ c, b ≤ c → (∀ s ∈ l, f s ≤ c) → l.foldl (fun m s => max m (f s)) b ≤ c := by
  induction l with
  | nil => intro b; simp
  | cons a l ih =>
    intro b
    obtain ⟨h1, h2, h3⟩ := ih (max b (f a))
    refine ⟨by simp; omega, fun s hs => ?_, fun c hb hc => ?_⟩
    · simp only [List.foldl_cons]
      rcases List.mem_cons.1 hs with rfl | hs
      · omega
      · exact h2 s hs
    · simp only [List.foldl_cons]
      exact h3 c (by have := hc a (by simp); omega) (fun s hs => hc s (by simp [hs]))
theorem le_mx {f : Nat → Int} {l : List Nat} {s : Nat} (h : s ∈ l) : f s ≤ mx f l := (mx_from f l 0).2.1 s h
theorem mx_nonneg (f : Nat → Int) (l : List Nat) : 0 ≤ mx f l := (mx_from f l 0).1
theorem mx_le {f : Nat → Int} {l : List Nat} {c : Int} (h0 : 0 ≤ c) (h : ∀ s ∈ l, f s ≤ c) : mx f l ≤ c := (mx_from f l 0).2.2 c h0 h
theorem mx_snoc (f : Nat → Int) (l : List Nat) (s : Nat) : mx f (l ++ [s]) = max (mx f l) (f s) := by simp [mx]
theorem mx_congr {f g : Nat → Int} {l : List Nat} (h : ∀ s ∈ l, f s = g s) : mx f l = mx g l :=
  Int.le_antisymm (mx_le (mx_nonneg _ _) (fun s hs => h s hs ▸ le_mx hs)) (mx_le (mx_nonneg _ _) (fun s hs => (h s hs).symm ▸ le_mx hs))

/-- The parts of a set. -/
def subs (x : Nat) : List Nat := (List.range 8).filter (fun s => s &&& x == s)
theorem subs_lt {x s : Nat} (h : s ∈ subs x) : s < 8 := by simp [subs] at h; exact h.1
theorem subs_and {x s : Nat} (h : s ∈ subs x) : s &&& x = s := by simp [subs] at h; exact h.2

/-- All of three sets below 8. -/
theorem all2 {p : Nat → Nat → Bool} (h : ((List.range 8).all fun a => (List.range 8).all fun b => p a b) = true) {a b : Nat} (ha : a < 8) (hb : b < 8) : p a b = true := by
  rw [List.all_eq_true] at h
  have := h a (by simpa using ha)
  rw [List.all_eq_true] at this
  exact this b (by simpa using hb)
theorem all3 {p : Nat → Nat → Nat → Bool} (h : ((List.range 8).all fun a => (List.range 8).all fun b => (List.range 8).all fun c => p a b c) = true) {a b c : Nat} (ha : a < 8) (hb : b < 8) (hc : c < 8) : p a b c = true := by
  have := all2 (p := fun a b => (List.range 8).all fun c => p a b c) h ha hb
  rw [List.all_eq_true] at this
  exact this c (by simpa using hc)

theorem sub_lt {x s : Nat} (hx : x < 8) (_hs : s ∈ subs x) : x - s < 8 := by omega
/-- A part of a part, and the rest. -/
theorem sub_sub {x s r : Nat} (hx : x < 8) (hs : s ∈ subs x) (hr : r ∈ subs (x - s)) : r ∈ subs x ∧ s ∈ subs (x - r) ∧ x - s - r = x - r - s := by
  have h := all3 (p := fun x s r => !(s &&& x == s) || !(r &&& (x - s) == r) || (r &&& x == r && s &&& (x - r) == s && x - s - r == x - r - s)) (by decide) hx (subs_lt hs) (subs_lt hr)
  simp [subs_and hs, subs_and hr] at h
  simp [subs, subs_lt hs, subs_lt hr]
  exact ⟨h.1.1, h.1.2, h.2⟩
/-- The rest of a part. -/
theorem sub_rest {x s : Nat} (hx : x < 8) (hs : s ∈ subs x) : x - s ∈ subs x ∧ x - (x - s) = s ∧ s ≤ x := by
  have h := all2 (p := fun x s => !(s &&& x == s) || ((x - s) &&& x == x - s && x - (x - s) == s && decide (s ≤ x))) (by decide) hx (subs_lt hs)
  simp [subs_and hs] at h
  exact ⟨by simp [subs, h.1.1]; omega, h.1.2, h.2⟩
theorem sub_zero (x : Nat) : 0 ∈ subs x := by simp [subs]
theorem sub_self {x : Nat} (hx : x < 8) : x ∈ subs x := by simp [subs, hx]

/-- Two bidders as one. -/
def jn (a b : Nat → Int) (x : Nat) : Int := mx (fun p => a p + b (x - p)) (subs x)
/-- The best that bidders have of a set, bidder by bidder. -/
def sv : List (List Int) → Nat → Int
  | [], _ => 0
  | t :: ts, x => mx (fun s => T t s + sv ts (x - s)) (subs x)

theorem sv_nonneg (ts : List (List Int)) (x : Nat) : 0 ≤ sv ts x := by cases ts with | nil => simp [sv] | cons t ts => exact mx_nonneg _ _
theorem mx_got (f : Nat → Int) (l : List Nat) : mx f l = 0 ∨ ∃ s ∈ l, mx f l = f s := by
  have : ∀ b : Int, l.foldl (fun m s => max m (f s)) b = b ∨ ∃ s ∈ l, l.foldl (fun m s => max m (f s)) b = f s := by
    induction l with
    | nil => intro b; simp
    | cons a l ih =>
      intro b
      rcases ih (max b (f a)) with h | ⟨s, hs, h⟩
      · simp only [List.foldl_cons, h]
        rcases Int.le_total b (f a) with hb | hb
        · exact .inr ⟨a, by simp, by omega⟩
        · exact .inl (by omega)
      · exact .inr ⟨s, by simp [hs], by simpa using h⟩
  exact this 0

/-- What bidders can have of a set. -/
def Got : List (List Int) → Nat → Int → Prop
  | [], _, v => v = 0
  | t :: ts, x, v => ∃ s, s ∈ subs x ∧ ∃ u, Got ts (x - s) u ∧ v = T t s + u
theorem got_le {ts : List (List Int)} : ∀ {x : Nat} {v : Int}, Got ts x v → v ≤ sv ts x := by
  induction ts with
  | nil => intro x v h; simp [Got] at h; simp [sv, h]
  | cons t ts ih =>
    rintro x v ⟨s, hs, u, hu, rfl⟩
    have h1 := le_mx (f := fun s => T t s + sv ts (x - s)) hs
    have h2 := ih hu
    simp only [sv]
    omega
theorem got_sv {ts : List (List Int)} (hz : ∀ t ∈ ts, T t 0 = 0) : ∀ x : Nat, Got ts x (sv ts x) := by
  induction ts with
  | nil => intro x; simp [Got, sv]
  | cons t ts ih =>
    intro x
    have ih := ih (fun t ht => hz t (by simp [ht]))
    have ht := hz t (by simp)
    rcases mx_got (fun s => T t s + sv ts (x - s)) (subs x) with h | ⟨s, hs, h⟩
    · have h1 := le_mx (f := fun s => T t s + sv ts (x - s)) (sub_zero x)
      have h2 := sv_nonneg ts x
      simp only [ht, Nat.sub_zero] at h1
      exact ⟨0, sub_zero x, _, ih _, by simp only [sv, ht, Nat.sub_zero]; omega⟩
    · exact ⟨s, hs, _, ih _, by simp only [sv]; exact h⟩
theorem got_snoc {ts : List (List Int)} {t : List Int} : ∀ {x : Nat} {v : Int}, x < 8 → (Got (ts ++ [t]) x v ↔ ∃ r, r ∈ subs x ∧ ∃ u, Got ts (x - r) u ∧ v = u + T t r) := by
  induction ts with
  | nil =>
    intro x v hx
    constructor
    · rintro ⟨s, hs, u, hu, rfl⟩
      exact ⟨s, hs, u, hu, by omega⟩
    · rintro ⟨s, hs, u, hu, rfl⟩
      exact ⟨s, hs, u, hu, by omega⟩
  | cons a ts ih =>
    intro x v hx
    constructor
    · rintro ⟨s, hs, u, hu, rfl⟩
      obtain ⟨r, hr, u', hu', rfl⟩ := (ih (sub_lt hx hs)).1 hu
      obtain ⟨h1, h2, h3⟩ := sub_sub hx hs hr
      exact ⟨r, h1, T a s + u', ⟨s, h2, u', h3 ▸ hu', rfl⟩, by omega⟩
    · rintro ⟨r, hr, u, ⟨s, hs, u', hu', rfl⟩, rfl⟩
      obtain ⟨h1, h2, h3⟩ := sub_sub hx hr hs
      exact ⟨s, h1, u' + T t r, (ih (sub_lt hx h1)).2 ⟨r, h2, u', h3 ▸ hu', rfl⟩, by omega⟩
/-- One bidder more behind all. -/
theorem sv_snoc {ts : List (List Int)} {t : List Int} (hz : ∀ u ∈ ts, T u 0 = 0) (ht : T t 0 = 0) {x : Nat} (hx : x < 8) : sv (ts ++ [t]) x = jn (sv ts) (T t) x := by
  apply Int.le_antisymm
  · obtain ⟨r, hr, u, hu, h⟩ := (got_snoc hx).1 (got_sv (ts := ts ++ [t]) (fun u hu => by rcases List.mem_append.1 hu with h | h; exact hz u h; simp at h; rw [h]; exact ht) x)
    obtain ⟨h1, h2, _⟩ := sub_rest hx hr
    have h3 := got_le hu
    have h4 := le_mx (f := fun p => sv ts p + T t (x - p)) h1
    simp only [h2] at h4
    rw [h]
    unfold jn
    omega
  · refine mx_le (sv_nonneg _ _) (fun p hp => ?_)
    obtain ⟨h1, h2, _⟩ := sub_rest hx hp
    exact got_le ((got_snoc hx).2 ⟨x - p, h1, sv ts p, h2.symm ▸ got_sv hz p, rfl⟩)

/-- One round of together: what the parts p and r bring. -/
def tgStep (a b : Nat → Int) (p : Nat) (bs : List Int) (r : Nat) : List Int := if p &&& r = 0 then bs.set (p ||| r) (max (T bs (p ||| r)) (a p + b r)) else bs
def tgRow (a b : Nat → Int) (bs : List Int) (p : Nat) : List Int := (List.range 8).foldl (tgStep a b p) bs
def tg (a b : Nat → Int) : List Int := (List.range 8).foldl (tgRow a b) (List.replicate 8 0)
theorem range8 : List.range 8 = [0, 1, 2, 3, 4, 5, 6, 7] := rfl
theorem tg_eq (a b : Nat → Int) : tg a b = [jn a b 0, jn a b 1, jn a b 2, jn a b 3, jn a b 4, jn a b 5, jn a b 6, jn a b 7] := by
  simp [tg, tgRow, tgStep, range8, T, jn, mx, subs, List.replicate]
theorem tg_at (a b : Nat → Int) {x : Nat} (hx : x < 8) : T (tg a b) x = jn a b x := by
  rw [tg_eq]
  have : x = 0 ∨ x = 1 ∨ x = 2 ∨ x = 3 ∨ x = 4 ∨ x = 5 ∨ x = 6 ∨ x = 7 := by omega
  rcases this with rfl | rfl | rfl | rfl | rfl | rfl | rfl | rfl <;> rfl
theorem tg_len (a b : Nat → Int) : (tg a b).length = 8 := by rw [tg_eq]; rfl
theorem jn_congr {a a' b b' : Nat → Int} {x : Nat} (hx : x < 8) (ha : ∀ x, x < 8 → a x = a' x) (hb : ∀ x, x < 8 → b x = b' x) : jn a b x = jn a' b' x :=
  mx_congr (fun s hs => by rw [ha s (subs_lt hs), hb (x - s) (by omega)])

/-- All bidders as one, one after another. -/
def jnAll (ts : List (List Int)) : List Int := ts.foldl (fun all t => tg (T all) (T t)) (List.replicate 8 0)
theorem jnAll_snoc (ts : List (List Int)) (t : List Int) : jnAll (ts ++ [t]) = tg (T (jnAll ts)) (T t) := by simp [jnAll]
theorem jnAll_len (ts : List (List Int)) : (jnAll ts).length = 8 := by
  rcases List.eq_nil_or_concat ts with rfl | ⟨i, l, rfl⟩
  · simp [jnAll]
  · rw [List.concat_eq_append, jnAll_snoc, tg_len]
theorem jnAll_at {ts : List (List Int)} (hz : ∀ t ∈ ts, T t 0 = 0) : ∀ {x : Nat}, x < 8 → T (jnAll ts) x = sv ts x := by
  have : ∀ n (ts : List (List Int)), ts.length = n → (∀ t ∈ ts, T t 0 = 0) → ∀ {x : Nat}, x < 8 → T (jnAll ts) x = sv ts x := by
    intro n
    induction n with
    | zero =>
      intro ts hl _ x hx
      have := List.eq_nil_of_length_eq_zero hl
      subst this
      have : x = 0 ∨ x = 1 ∨ x = 2 ∨ x = 3 ∨ x = 4 ∨ x = 5 ∨ x = 6 ∨ x = 7 := by omega
      rcases this with rfl | rfl | rfl | rfl | rfl | rfl | rfl | rfl <;> rfl
    | succ n ih =>
      intro ts hl hz x hx
      obtain ⟨init, last, rfl⟩ : ∃ init last, ts = init ++ [last] := ⟨ts.dropLast, ts.getLast (by intro h; simp [h] at hl), (List.dropLast_concat_getLast _).symm⟩
      have hz1 : ∀ t ∈ init, T t 0 = 0 := fun t ht => hz t (by simp [ht])
      rw [jnAll_snoc, tg_at _ _ hx, sv_snoc hz1 (hz last (by simp)) hx]
      exact jn_congr hx (fun y hy => ih init (by simpa using hl) hz1 hy) (fun _ _ => rfl)
  intro x hx
  exact this _ ts rfl hz hx


/-- Which things bidder i has, where the things go to x, y and z. -/
def skn (x y z i : Int) : Nat := (if x = i then 1 else 0) + (if y = i then 2 else 0) + (if z = i then 4 else 0)
theorem skn_lt (x y z i : Int) : skn x y z i < 8 := by unfold skn; split <;> split <;> split <;> omega
/-- What bidders k, k + 1 .. have by it. -/
def wk : List (List Int) → Int → Int → Int → Int → Int
  | [], _, _, _, _ => 0
  | t :: ts, k, x, y, z => T t (skn x y z k) + wk ts (k + 1) x y z
/-- Which things go to bidders from k on. -/
def ge (k x y z : Int) : Nat := (if k ≤ x then 1 else 0) + (if k ≤ y then 2 else 0) + (if k ≤ z then 4 else 0)
theorem ge_lt (k x y z : Int) : ge k x y z < 8 := by unfold ge; split <;> split <;> split <;> omega
theorem ge_step (k x y z : Int) : skn x y z k ∈ subs (ge k x y z) ∧ ge k x y z - skn x y z k = ge (k + 1) x y z := by
  have h1 : (k + 1 ≤ x) ↔ (k ≤ x ∧ ¬ x = k) := by omega
  have h2 : (k + 1 ≤ y) ↔ (k ≤ y ∧ ¬ y = k) := by omega
  have h3 : (k + 1 ≤ z) ↔ (k ≤ z ∧ ¬ z = k) := by omega
  unfold ge skn
  simp only [h1, h2, h3]
  by_cases a1 : x = k <;> by_cases a2 : y = k <;> by_cases a3 : z = k <;> by_cases b1 : k ≤ x <;> by_cases b2 : k ≤ y <;> by_cases b3 : k ≤ z <;> simp [a1, a2, a3, b1, b2, b3] <;> first | decide | omega
theorem wk_got (ts : List (List Int)) (x y z : Int) : ∀ k, Got ts (ge k x y z) (wk ts k x y z) := by
  induction ts with
  | nil => intro k; simp [Got, wk]
  | cons t ts ih =>
    intro k
    obtain ⟨h1, h2⟩ := ge_step k x y z
    exact ⟨_, h1, _, by rw [h2]; exact ih (k + 1), rfl⟩
theorem wk_same (ts : List (List Int)) (x y z x' y' z' : Int) : ∀ k : Int, (∀ i : Int, k ≤ i → i < k + ts.length → ((x = i ↔ x' = i) ∧ (y = i ↔ y' = i) ∧ (z = i ↔ z' = i))) → wk ts k x y z = wk ts k x' y' z' := by
  induction ts with
  | nil => intro k _; rfl
  | cons t ts ih =>
    intro k h
    have h0 := h k (by omega) (by simp; omega)
    have e : skn x y z k = skn x' y' z' k := by unfold skn; simp only [h0.1, h0.2.1, h0.2.2]
    simp only [wk]
    rw [e, ih (k + 1) (fun i h1 h2 => h i (by omega) (by simp; omega))]
theorem skn_pick {s : Nat} {k x y z : Int} (hs : s < 8) (hx : x ≠ k) (hy : y ≠ k) (hz : z ≠ k) : skn (if s % 2 = 1 then k else x) (if s / 2 % 2 = 1 then k else y) (if s / 4 % 2 = 1 then k else z) k = s := by
  have : s = 0 ∨ s = 1 ∨ s = 2 ∨ s = 3 ∨ s = 4 ∨ s = 5 ∨ s = 6 ∨ s = 7 := by omega
  rcases this with rfl | rfl | rfl | rfl | rfl | rfl | rfl | rfl <;> simp [skn, hx, hy, hz]
set_option maxHeartbeats 1000000 in
/-- The bidder of a thing: by what the set of the first has. -/
theorem got_wk (ts : List (List Int)) : ∀ (X : Nat) (k v : Int), X < 8 → Got ts X v →
    ∃ x y z : Int, (k ≤ x ∧ x ≤ k + ts.length) ∧ (k ≤ y ∧ y ≤ k + ts.length) ∧ (k ≤ z ∧ z ≤ k + ts.length) ∧ (X % 2 = 0 → x = k + ts.length) ∧ (X / 2 % 2 = 0 → y = k + ts.length) ∧ (X / 4 % 2 = 0 → z = k + ts.length) ∧ wk ts k x y z = v := by
  induction ts with
  | nil => intro X k v _ h; simp [Got] at h; exact ⟨k, k, k, by simp, by simp, by simp, by simp, by simp, by simp, by simp [wk, h]⟩
  | cons t ts ih =>
    rintro X k v hX ⟨s, hs, u, hu, rfl⟩
    obtain ⟨x, y, z, hx, hy, hz, ex, ey, ez, hw⟩ := ih (X - s) (k + 1) u (sub_lt hX hs) hu
    have hs8 := subs_lt hs
    have hb := all2 (p := fun X s => !(s &&& X == s) || ((!(s % 2 == 1) || (X % 2 == 1 && (X - s) % 2 == 0)) && (!(s / 2 % 2 == 1) || (X / 2 % 2 == 1 && (X - s) / 2 % 2 == 0)) && (!(s / 4 % 2 == 1) || (X / 4 % 2 == 1 && (X - s) / 4 % 2 == 0)) &&
      (!(X % 2 == 0) || (X - s) % 2 == 0) && (!(X / 2 % 2 == 0) || (X - s) / 2 % 2 == 0) && (!(X / 4 % 2 == 0) || (X - s) / 4 % 2 == 0))) (by decide) hX hs8
    simp [subs_and hs] at hb
    obtain ⟨⟨⟨⟨⟨b1, b2⟩, b3⟩, c1⟩, c2⟩, c3⟩ := hb
    refine ⟨if s % 2 = 1 then k else x, if s / 2 % 2 = 1 then k else y, if s / 4 % 2 = 1 then k else z, ?_, ?_, ?_, ?_, ?_, ?_, ?_⟩
    · simp only [List.length_cons]; split <;> omega
    · simp only [List.length_cons]; split <;> omega
    · simp only [List.length_cons]; split <;> omega
    · intro h; simp only [List.length_cons]; rw [if_neg (by omega)]; omega
    · intro h; simp only [List.length_cons]; rw [if_neg (by omega)]; omega
    · intro h; simp only [List.length_cons]; rw [if_neg (by omega)]; omega
    · have e1 := skn_pick hs8 (k := k) (x := x) (y := y) (z := z) (by omega) (by omega) (by omega)
      simp only [wk]
      rw [e1, ← hw]
      congr 1
      clear hw e1 hu
      refine wk_same ts _ _ _ _ _ _ (k + 1) (fun i h1 h2 => ⟨?_, ?_, ?_⟩)
      · clear hy hz ey ez b2 b3 c2 c3; split <;> omega
      · clear hx hz ex ez b1 b3 c1 c3; split <;> omega
      · clear hy hx ey ex b2 b1 c2 c1; split <;> omega

/-- The sets of n bidders, where the things go as told. -/
def setsF (os : List Int) (n : Nat) : List Int := (List.range n).map (fun i : Nat => ((skn (os.getD 0 0) (os.getD 1 0) (os.getD 2 0) (i : Int) : Nat) : Int))
/-- What they are worth together. -/
def worthF (ts : List (List Int)) (os : List Int) : Int := wk ts 0 (os.getD 0 0) (os.getD 1 0) (os.getD 2 0)

/-- More things are worth no less. -/
theorem got_more {ts : List (List Int)} : ∀ {X Y : Nat} {v : Int}, Y < 8 → X ∈ subs Y → Got ts X v → Got ts Y v := by
  induction ts with
  | nil => intro X Y v _ _ h; exact h
  | cons t ts ih =>
    rintro X Y v hY hX ⟨s, hs, u, hu, rfl⟩
    have h := all3 (p := fun Y X s => !(X &&& Y == X) || !(s &&& X == s) || (s &&& Y == s && (X - s) &&& (Y - s) == X - s && decide (X - s < 8))) (by decide) hY (subs_lt hX) (subs_lt hs)
    simp [subs_and hX, subs_and hs] at h
    exact ⟨s, by simp [subs, subs_lt hs, h.1], u, ih (by omega) (by simp [subs, h]) hu, rfl⟩
theorem sv_more {ts : List (List Int)} (hz : ∀ t ∈ ts, T t 0 = 0) {X Y : Nat} (hY : Y < 8) (hX : X ∈ subs Y) : sv ts X ≤ sv ts Y := got_le (got_more hY hX (got_sv hz X))
theorem sv_last {ts : List (List Int)} {t : List Int} (hz : ∀ u ∈ ts, T u 0 = 0) (ht : T t 0 = 0) {x : Nat} (hx : x < 8) : sv ts x ≤ sv (ts ++ [t]) x := by
  rw [sv_snoc hz ht hx]
  have h := le_mx (f := fun p => sv ts p + T t (x - p)) (sub_self hx)
  simp only [Nat.sub_self, ht] at h
  unfold jn
  omega

end Go.Proofs.Ytpildecpabeanaa
