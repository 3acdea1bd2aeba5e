/-
  Plain words for tables of sets of things: what is a table, what bidders have of a set at best, who has what.
-/
import Derived.Test.YtpildecpabeanaaG00
namespace Go.Proofs.Ytpildecpabeanaa

/-- Entry s of a table. -/
def T (t : List Int) (s : Nat) : Int := t.getD s 0

/-- A table. -/
def VT (t : List Int) : Prop := t.length = 8 ∧ T t 0 = 0 ∧ ∀ s, s < 8 → (0 ≤ T t s ∧ T t s ≤ 30) ∧ ∀ j, j < 3 → s / 2 ^ j % 2 = 0 → T t s ≤ T t (s + 2 ^ j)

theorem nat3 {j : Nat} (h : j < 3) : j = 0 ∨ j = 1 ∨ j = 2 := by omega
theorem nat8 {s : Nat} (h : s < 8) : s = 0 ∨ s = 1 ∨ s = 2 ∨ s = 3 ∨ s = 4 ∨ s = 5 ∨ s = 6 ∨ s = 7 := by omega

/-- The greatest worth of what is one thing less, of the first k things. -/
def blTo (t : List Int) (s : Nat) : Nat → Int
  | 0 => 0
  | k + 1 => if s / 2 ^ k % 2 = 1 then max (blTo t s k) (T t (s - 2 ^ k)) else blTo t s k
def bl (t : List Int) (s : Nat) : Int := blTo t s 3

/-- What the program asks of a set. -/
def okI (t : List Int) (s : Nat) : Prop := (0 ≤ T t s ∧ T t s ≤ 30) ∧ bl t s ≤ T t s
/-- What the model asks of a set. -/
def okS (t : List Int) (s : Nat) : Prop := (0 ≤ T t s ∧ T t s ≤ 30) ∧ ∀ j, j < 3 → s / 2 ^ j % 2 = 0 → T t s ≤ T t (s + 2 ^ j)

theorem VT.toS {t : List Int} (h : VT t) {s : Nat} (hs : s < 8) : okS t s := h.2.2 s hs

/-- A table, number by number. -/
theorem VT.all {t : List Int} (h : VT t) : (T t 0 = 0) ∧ (0 ≤ T t 1 ∧ T t 1 ≤ 30) ∧ (0 ≤ T t 2 ∧ T t 2 ≤ 30) ∧ (0 ≤ T t 3 ∧ T t 3 ≤ 30) ∧ (0 ≤ T t 4 ∧ T t 4 ≤ 30) ∧ (0 ≤ T t 5 ∧ T t 5 ≤ 30) ∧ (0 ≤ T t 6 ∧ T t 6 ≤ 30) ∧ (0 ≤ T t 7 ∧ T t 7 ≤ 30) ∧
    T t 1 ≤ T t 3 ∧ T t 1 ≤ T t 5 ∧ T t 2 ≤ T t 3 ∧ T t 2 ≤ T t 6 ∧ T t 3 ≤ T t 7 ∧ T t 4 ≤ T t 5 ∧ T t 4 ≤ T t 6 ∧ T t 5 ≤ T t 7 ∧ T t 6 ≤ T t 7 := by
  obtain ⟨_, h0, h⟩ := h
  have b := fun s hs => (h s hs).1
  have m := fun s hs => (h s hs).2
  exact ⟨h0, b 1 (by omega), b 2 (by omega), b 3 (by omega), b 4 (by omega), b 5 (by omega), b 6 (by omega), b 7 (by omega),
    m 1 (by omega) 1 (by omega) (by decide), m 1 (by omega) 2 (by omega) (by decide), m 2 (by omega) 0 (by omega) (by decide), m 2 (by omega) 2 (by omega) (by decide), m 3 (by omega) 2 (by omega) (by decide),
    m 4 (by omega) 0 (by omega) (by decide), m 4 (by omega) 1 (by omega) (by decide), m 5 (by omega) 1 (by omega) (by decide), m 6 (by omega) 0 (by omega) (by decide)⟩
theorem bl_vals (t : List Int) : bl t 0 = 0 ∧ bl t 1 = max 0 (T t 0) ∧ bl t 2 = max 0 (T t 0) ∧ bl t 3 = max (max 0 (T t 2)) (T t 1) ∧ bl t 4 = max 0 (T t 0) ∧ bl t 5 = max (max 0 (T t 4)) (T t 1) ∧ bl t 6 = max (max 0 (T t 4)) (T t 2) ∧ bl t 7 = max (max (max 0 (T t 6)) (T t 5)) (T t 3) := by
  simp [bl, blTo]
theorem VT.toI {t : List Int} (h : VT t) {s : Nat} (hs : s < 8) : okI t s := by
  have a := h.all
  have b := bl_vals t
  refine ⟨(h.2.2 s hs).1, ?_⟩
  rcases nat8 hs with rfl | rfl | rfl | rfl | rfl | rfl | rfl | rfl <;> omega
theorem VT.of_okI {t : List Int} (hl : t.length = 8) (h0 : T t 0 = 0) (h : ∀ s, s < 8 → okI t s) : VT t := by
  refine ⟨hl, h0, fun s hs => ⟨(h s hs).1, fun j hj hb => ?_⟩⟩
  have b := bl_vals t
  have e := fun s hs => (h s hs).2
  have e3 := e 3 (by omega)
  have e5 := e 5 (by omega)
  have e6 := e 6 (by omega)
  have e7 := e 7 (by omega)
  have e1 := e 1 (by omega)
  have e2 := e 2 (by omega)
  have e4 := e 4 (by omega)
  have p1 := (h 1 (by omega)).1
  have p2 := (h 2 (by omega)).1
  have p4 := (h 4 (by omega)).1
  rcases nat8 hs with rfl | rfl | rfl | rfl | rfl | rfl | rfl | rfl <;> rcases nat3 hj with rfl | rfl | rfl <;> simp at hb ⊢ <;> omega
theorem VT.of_okS {t : List Int} (hl : t.length = 8) (h0 : T t 0 = 0) (h : ∀ s, s < 8 → okS t s) : VT t := ⟨hl, h0, h⟩

noncomputable def vt (t : List Int) : Bool := @decide (VT t) (Classical.propDecidable _)
theorem vt_true {t : List Int} (h : VT t) : vt t = true := by unfold vt; simp [h]
theorem vt_false {t : List Int} (h : ¬ VT t) : vt t = false := by unfold vt; simp [h]
theorem vt_iff {t : List Int} : vt t = true ↔ VT t := by unfold vt; simp
theorem T_of {t : List Int} {s : Nat} {x : Int} (h : t[s]? = some x) : T t s = x := by unfold T; rw [List.getD_eq_getElem?_getD, h]; rfl
theorem T_at {t : List Int} {s : Nat} (h : s < t.length) : t[s]? = some (T t s) := by unfold T; simp [h]

/-- The things of a set, of the first k. -/
def thTo (s : Nat) : Nat → List Int
  | 0 => []
  | k + 1 => if s / 2 ^ k % 2 = 1 then thTo s k ++ [(k : Int)] else thTo s k
def th (s : Nat) : List Int := thTo s 3


/-- The greatest of the values at a list, 0 if there is none above. -/
def mx (f : Nat → Int) (l : List Nat) : Int := l.foldl (fun m s => max m (f s)) 0
theorem mx_from (f : Nat → Int) (l : List Nat) : ∀ b : Int, b ≤ l.foldl (fun m s => max m (f s)) b ∧ (∀ s ∈ l, f s ≤ l.foldl (fun m s => max m (f s)) b) ∧ ∀ c, b ≤ c → (∀ s ∈ l, f s ≤ c) → l.foldl (fun m s => max m (f s)) b ≤ c := by
  induction l with
  | nil => intro b; simp
  | cons a l ih =>
    intro b
    obtain ⟨h1, h2, h3⟩ := ih (max b (f a))
    refine ⟨by simp; omega, fun s hs => ?_, fun c hb hc => ?_⟩
    · simp only [List.foldl_cons]
      rcases List.mem_cons.1 hs with rfl | hs
      · omega
      · exact h2 s hs
    · simp only [List.foldl_cons]
      exact h3 c (by have := hc a (by simp); omega) (fun s hs => hc s (by simp [hs]))
theorem le_mx {f : Nat → Int} {l : List Nat} {s : Nat} (h : s ∈ l) : f s ≤ mx f l := (mx_from f l 0).2.1 s h
theorem mx_nonneg (f : Nat → Int) (l : List Nat) : 0 ≤ mx f l := (mx_from f l 0).1
theorem mx_le {f : Nat → Int} {l : List Nat} {c : Int} (h0 : 0 ≤ c) (h : ∀ s ∈ l, f s ≤ c) : mx f l ≤ c := (mx_from f l 0).2.2 c h0 h
theorem mx_snoc (f : Nat → Int) (l : List Nat) (s : Nat) : mx f (l ++ [s]) = max (mx f l) (f s) := by simp [mx]
theorem mx_congr {f g : Nat → Int} {l : List Nat} (h : ∀ s ∈ l, f s = g s) : mx f l = mx g l :=
  Int.le_antisymm (mx_le (mx_nonneg _ _) (fun s hs => h s hs ▸ le_mx hs)) (mx_le (mx_nonneg _ _) (fun s hs => (h s hs).symm ▸ le_mx hs))

/-- The parts of a set. -/
def subs (x : Nat) : List Nat := (List.range 8).filter (fun s => s &&& x == s)
theorem subs_lt {x s : Nat} (h : s ∈ subs x) : s < 8 := by simp [subs] at h; exact h.1
theorem subs_and {x s : Nat} (h : s ∈ subs x) : s &&& x = s := by simp [subs] at h; exact h.2

/-- All of three sets below 8. -/
theorem all2 {p : Nat → Nat → Bool} (h : ((List.range 8).all fun a => (List.range 8).all fun b => p a b) = true) {a b : Nat} (ha : a < 8) (hb : b < 8) : p a b = true := by
  rw [List.all_eq_true] at h
  have := h a (by simpa using ha)
  rw [List.all_eq_true] at this
  exact this b (by simpa using hb)
theorem all3 {p : Nat → Nat → Nat → Bool} (h : ((List.range 8).all fun a => (List.range 8).all fun b => (List.range 8).all fun c => p a b c) = true) {a b c : Nat} (ha : a < 8) (hb : b < 8) (hc : c < 8) : p a b c = true := by
  have := all2 (p := fun a b => (List.range 8).all fun c => p a b c) h ha hb
  rw [List.all_eq_true] at this
  exact this c (by simpa using hc)

theorem sub_lt {x s : Nat} (hx : x < 8) (_hs : s ∈ subs x) : x - s < 8 := by omega
/-- A part of a part, and the rest. -/
theorem sub_sub {x s r : Nat} (hx : x < 8) (hs : s ∈ subs x) (hr : r ∈ subs (x - s)) : r ∈ subs x ∧ s ∈ subs (x - r) ∧ x - s - r = x - r - s := by
  have h := all3 (p := fun x s r => !(s &&& x == s) || !(r &&& (x - s) == r) || (r &&& x == r && s &&& (x - r) == s && x - s - r == x - r - s)) (by decide) hx (subs_lt hs) (subs_lt hr)
  simp [subs_and hs, subs_and hr] at h
  simp [subs, subs_lt hs, subs_lt hr]
  exact ⟨h.1.1, h.1.2, h.2⟩
/-- The rest of a part. -/
theorem sub_rest {x s : Nat} (hx : x < 8) (hs : s ∈ subs x) : x - s ∈ subs x ∧ x - (x - s) = s ∧ s ≤ x := by
  have h := all2 (p := fun x s => !(s &&& x == s) || ((x - s) &&& x == x - s && x - (x - s) == s && decide (s ≤ x))) (by decide) hx (subs_lt hs)
  simp [subs_and hs] at h
  exact ⟨by simp [subs, h.1.1]; omega, h.1.2, h.2⟩
theorem sub_zero (x : Nat) : 0 ∈ subs x := by simp [subs]
theorem sub_self {x : Nat} (hx : x < 8) : x ∈ subs x := by simp [subs, hx]

/-- Two bidders as one. -/
def jn (a b : Nat → Int) (x : Nat) : Int := mx (fun p => a p + b (x - p)) (subs x)
/-- The best that bidders have of a set, bidder by bidder. -/
def sv : List (List Int) → Nat → Int
  | [], _ => 0
  | t :: ts, x => mx (fun s => T t s + sv ts (x - s)) (subs x)

theorem sv_nonneg (ts : List (List Int)) (x : Nat) : 0 ≤ sv ts x := by cases ts with | nil => simp [sv] | cons t ts => exact mx_nonneg _ _
theorem mx_got (f : Nat → Int) (l : List Nat) : mx f l = 0 ∨ ∃ s ∈ l, mx f l = f s := by
  have : ∀ b : Int, l.foldl (fun m s => max m (f s)) b = b ∨ ∃ s ∈ l, l.foldl (fun m s => max m (f s)) b = f s := by
    induction l with
    | nil => intro b; simp
    | cons a l ih =>
      intro b
      rcases ih (max b (f a)) with h | ⟨s, hs, h⟩
      · simp only [List.foldl_cons, h]
        rcases Int.le_total b (f a) with hb | hb
        · exact .inr ⟨a, by simp, by omega⟩
        · exact .inl (by omega)
      · exact .inr ⟨s, by simp [hs], by simpa using h⟩
  exact this 0

/-- What bidders can have of a set. -/
def Got : List (List Int) → Nat → Int → Prop
  | [], _, v => v = 0
  | t :: ts, x, v => ∃ s, s ∈ subs x ∧ ∃ u, Got ts (x - s) u ∧ v = T t s + u
theorem got_le {ts : List (List Int)} : ∀ {x : Nat} {v : Int}, Got ts x v → v ≤ sv ts x := by
  induction ts with
  | nil => intro x v h; simp [Got] at h; simp [sv, h]
  | cons t ts ih =>
    rintro x v ⟨s, hs, u, hu, rfl⟩
    have h1 := le_mx (f := fun s => T t s + sv ts (x - s)) hs
    have h2 := ih hu
    simp only [sv]
    omega
theorem got_sv {ts : List (List Int)} (hz : ∀ t ∈ ts, T t 0 = 0) : ∀ x : Nat, Got ts x (sv ts x) := by
  induction ts with
  | nil => intro x; simp [Got, sv]
  | cons t ts ih =>
    intro x
    have ih := ih (fun t ht => hz t (by simp [ht]))
    have ht := hz t (by simp)
    rcases mx_got (fun s => T t s + sv ts (x - s)) (subs x) with h | ⟨s, hs, h⟩
    · have h1 := le_mx (f := fun s => T t s + sv ts (x - s)) (sub_zero x)
      have h2 := sv_nonneg ts x
      simp only [ht, Nat.sub_zero] at h1
      exact ⟨0, sub_zero x, _, ih _, by simp only [sv, ht, Nat.sub_zero]; omega⟩
    · exact ⟨s, hs, _, ih _, by simp only [sv]; exact h⟩
theorem got_snoc {ts : List (List Int)} {t : List Int} : ∀ {x : Nat} {v : Int}, x < 8 → (Got (ts ++ [t]) x v ↔ ∃ r, r ∈ subs x ∧ ∃ u, Got ts (x - r) u ∧ v = u + T t r) := by
  induction ts with
  | nil =>
    intro x v hx
    constructor
    · rintro ⟨s, hs, u, hu, rfl⟩
      exact ⟨s, hs, u, hu, by omega⟩
    · rintro ⟨s, hs, u, hu, rfl⟩
      exact ⟨s, hs, u, hu, by omega⟩
  | cons a ts ih =>
    intro x v hx
    constructor
    · rintro ⟨s, hs, u, hu, rfl⟩
      obtain ⟨r, hr, u', hu', rfl⟩ := (ih (sub_lt hx hs)).1 hu
      obtain ⟨h1, h2, h3⟩ := sub_sub hx hs hr
      exact ⟨r, h1, T a s + u', ⟨s, h2, u', h3 ▸ hu', rfl⟩, by omega⟩
    · rintro ⟨r, hr, u, ⟨s, hs, u', hu', rfl⟩, rfl⟩
      obtain ⟨h1, h2, h3⟩ := sub_sub hx hr hs
      exact ⟨s, h1, u' + T t r, (ih (sub_lt hx h1)).2 ⟨r, h2, u', h3 ▸ hu', rfl⟩, by omega⟩
/-- One bidder more behind all. -/
theorem sv_snoc {ts : List (List Int)} {t : List Int} (hz : ∀ u ∈ ts, T u 0 = 0) (ht : T t 0 = 0) {x : Nat} (hx : x < 8) : sv (ts ++ [t]) x = jn (sv ts) (T t) x := by
  apply Int.le_antisymm
  · obtain ⟨r, hr, u, hu, h⟩ := (got_snoc hx).1 (got_sv (ts := ts ++ [t]) (fun u hu => by rcases List.mem_append.1 hu with h | h; exact hz u h; simp at h; rw [h]; exact ht) x)
    obtain ⟨h1, h2, _⟩ := sub_rest hx hr
    have h3 := got_le hu
    have h4 := le_mx (f := fun p => sv ts p + T t (x - p)) h1
    simp only [h2] at h4
    rw [h]
    unfold jn
    omega
  · refine mx_le (sv_nonneg _ _) (fun p hp => ?_)
    obtain ⟨h1, h2, _⟩ := sub_rest hx hp
    exact got_le ((got_snoc hx).2 ⟨x - p, h1, sv ts p, h2.symm ▸ got_sv hz p, rfl⟩)

/-- One round of together: what the parts p and r bring. -/
def tgStep (a b : Nat → Int) (p : Nat) (bs : List Int) (r : Nat) : List Int := if p &&& r = 0 then bs.set (p ||| r) (max (T bs (p ||| r)) (a p + b r)) else bs
def tgRow (a b : Nat → Int) (bs : List Int) (p : Nat) : List Int := (List.range 8).foldl (tgStep a b p) bs
def tg (a b : Nat → Int) : List Int := (List.range 8).foldl (tgRow a b) (List.replicate 8 0)
theorem range8 : List.range 8 = [0, 1, 2, 3, 4, 5, 6, 7] := rfl
theorem tg_eq (a b : Nat → Int) : tg a b = [jn a b 0, jn a b 1, jn a b 2, jn a b 3, jn a b 4, jn a b 5, jn a b 6, jn a b 7] := by
  simp [tg, tgRow, tgStep, range8, T, jn, mx, subs, List.replicate]
theorem tg_at (a b : Nat → Int) {x : Nat} (hx : x < 8) : T (tg a b) x = jn a b x := by
  rw [tg_eq]
  have : x = 0 ∨ x = 1 ∨ x = 2 ∨ x = 3 ∨ x = 4 ∨ x = 5 ∨ x = 6 ∨ x = 7 := by omega
  rcases this with rfl | rfl | rfl | rfl | rfl | rfl | rfl | rfl <;> rfl
theorem tg_len (a b : Nat → Int) : (tg a b).length = 8 := by rw [tg_eq]; rfl
theorem jn_congr {a a' b b' : Nat → Int} {x : Nat} (hx : x < 8) (ha : ∀ x, x < 8 → a x = a' x) (hb : ∀ x, x < 8 → b x = b' x) : jn a b x = jn a' b' x :=
  mx_congr (fun s hs => by rw [ha s (subs_lt hs), hb (x - s) (by omega)])

/-- All bidders as one, one after another. -/
def jnAll (ts : List (List Int)) : List Int := ts.foldl (fun all t => tg (T all) (T t)) (List.replicate 8 0)
theorem jnAll_snoc (ts : List (List Int)) (t : List Int) : jnAll (ts ++ [t]) = tg (T (jnAll ts)) (T t) := by simp [jnAll]
theorem jnAll_len (ts : List (List Int)) : (jnAll ts).length = 8 := by
  rcases List.eq_nil_or_concat ts with rfl | ⟨i, l, rfl⟩
  · simp [jnAll]
  · rw [List.concat_eq_append, jnAll_snoc, tg_len]
theorem jnAll_at {ts : List (List Int)} (hz : ∀ t ∈ ts, T t 0 = 0) : ∀ {x : Nat}, x < 8 → T (jnAll ts) x = sv ts x := by
  have : ∀ n (ts : List (List Int)), ts.length = n → (∀ t ∈ ts, T t 0 = 0) → ∀ {x : Nat}, x < 8 → T (jnAll ts) x = sv ts x := by
    intro n
    induction n with
    | zero =>
      intro ts hl _ x hx
      have := List.eq_nil_of_length_eq_zero hl
      subst this
      have : x = 0 ∨ x = 1 ∨ x = 2 ∨ x = 3 ∨ x = 4 ∨ x = 5 ∨ x = 6 ∨ x = 7 := by omega
      rcases this with rfl | rfl | rfl | rfl | rfl | rfl | rfl | rfl <;> rfl
    | succ n ih =>
      intro ts hl hz x hx
      obtain ⟨init, last, rfl⟩ : ∃ init last, ts = init ++ [last] := ⟨ts.dropLast, ts.getLast (by intro h; simp [h] at hl), (List.dropLast_concat_getLast _).symm⟩
      have hz1 : ∀ t ∈ init, T t 0 = 0 := fun t ht => hz t (by simp [ht])
      rw [jnAll_snoc, tg_at _ _ hx, sv_snoc hz1 (hz last (by simp)) hx]
      exact jn_congr hx (fun y hy => ih init (by simpa using hl) hz1 hy) (fun _ _ => rfl)
  intro x hx
  exact this _ ts rfl hz hx


/-- Which things bidder i has, where the things go to x, y and z. -/
def skn (x y z i : Int) : Nat := (if x = i then 1 else 0) + (if y = i then 2 else 0) + (if z = i then 4 else 0)
theorem skn_lt (x y z i : Int) : skn x y z i < 8 := by unfold skn; split <;> split <;> split <;> omega
/-- What bidders k, k + 1 .. have by it. -/
def wk : List (List Int) → Int → Int → Int → Int → Int
  | [], _, _, _, _ => 0
  | t :: ts, k, x, y, z => T t (skn x y z k) + wk ts (k + 1) x y z
/-- Which things go to bidders from k on. -/
def ge (k x y z : Int) : Nat := (if k ≤ x then 1 else 0) + (if k ≤ y then 2 else 0) + (if k ≤ z then 4 else 0)
theorem ge_lt (k x y z : Int) : ge k x y z < 8 := by unfold ge; split <;> split <;> split <;> omega
theorem ge_step (k x y z : Int) : skn x y z k ∈ subs (ge k x y z) ∧ ge k x y z - skn x y z k = ge (k + 1) x y z := by
  have h1 : (k + 1 ≤ x) ↔ (k ≤ x ∧ ¬ x = k) := by omega
  have h2 : (k + 1 ≤ y) ↔ (k ≤ y ∧ ¬ y = k) := by omega
  have h3 : (k + 1 ≤ z) ↔ (k ≤ z ∧ ¬ z = k) := by omega
  unfold ge skn
  simp only [h1, h2, h3]
  by_cases a1 : x = k <;> by_cases a2 : y = k <;> by_cases a3 : z = k <;> by_cases b1 : k ≤ x <;> by_cases b2 : k ≤ y <;> by_cases b3 : k ≤ z <;> simp [a1, a2, a3, b1, b2, b3] <;> first | decide | omega
theorem wk_got (ts : List (List Int)) (x y z : Int) : ∀ k, Got ts (ge k x y z) (wk ts k x y z) := by
  induction ts with
  | nil => intro k; simp [Got, wk]
  | cons t ts ih =>
    intro k
    obtain ⟨h1, h2⟩ := ge_step k x y z
    exact ⟨_, h1, _, by rw [h2]; exact ih (k + 1), rfl⟩
theorem wk_same (ts : List (List Int)) (x y z x' y' z' : Int) : ∀ k : Int, (∀ i : Int, k ≤ i → i < k + ts.length → ((x = i ↔ x' = i) ∧ (y = i ↔ y' = i) ∧ (z = i ↔ z' = i))) → wk ts k x y z = wk ts k x' y' z' := by
  induction ts with
  | nil => intro k _; rfl
  | cons t ts ih =>
    intro k h
    have h0 := h k (by omega) (by simp; omega)
    have e : skn x y z k = skn x' y' z' k := by unfold skn; simp only [h0.1, h0.2.1, h0.2.2]
    simp only [wk]
    rw [e, ih (k + 1) (fun i h1 h2 => h i (by omega) (by simp; omega))]
theorem skn_pick {s : Nat} {k x y z : Int} (hs : s < 8) (hx : x ≠ k) (hy : y ≠ k) (hz : z ≠ k) : skn (if s % 2 = 1 then k else x) (if s / 2 % 2 = 1 then k else y) (if s / 4 % 2 = 1 then k else z) k = s := by
  have : s = 0 ∨ s = 1 ∨ s = 2 ∨ s = 3 ∨ s = 4 ∨ s = 5 ∨ s = 6 ∨ s = 7 := by omega
  rcases this with rfl | rfl | rfl | rfl | rfl | rfl | rfl | rfl <;> simp [skn, hx, hy, hz]
set_option maxHeartbeats 1000000 in
/-- The bidder of a thing: by what the set of the first has. -/
theorem got_wk (ts : List (List Int)) : ∀ (X : Nat) (k v : Int), X < 8 → Got ts X v →
    ∃ x y z : Int, (k ≤ x ∧ x ≤ k + ts.length) ∧ (k ≤ y ∧ y ≤ k + ts.length) ∧ (k ≤ z ∧ z ≤ k + ts.length) ∧ (X % 2 = 0 → x = k + ts.length) ∧ (X / 2 % 2 = 0 → y = k + ts.length) ∧ (X / 4 % 2 = 0 → z = k + ts.length) ∧ wk ts k x y z = v := by
  induction ts with
  | nil => intro X k v _ h; simp [Got] at h; exact ⟨k, k, k, by simp, by simp, by simp, by simp, by simp, by simp, by simp [wk, h]⟩
  | cons t ts ih =>
    rintro X k v hX ⟨s, hs, u, hu, rfl⟩
    obtain ⟨x, y, z, hx, hy, hz, ex, ey, ez, hw⟩ := ih (X - s) (k + 1) u (sub_lt hX hs) hu
    have hs8 := subs_lt hs
    have hb := all2 (p := fun X s => !(s &&& X == s) || ((!(s % 2 == 1) || (X % 2 == 1 && (X - s) % 2 == 0)) && (!(s / 2 % 2 == 1) || (X / 2 % 2 == 1 && (X - s) / 2 % 2 == 0)) && (!(s / 4 % 2 == 1) || (X / 4 % 2 == 1 && (X - s) / 4 % 2 == 0)) &&
      (!(X % 2 == 0) || (X - s) % 2 == 0) && (!(X / 2 % 2 == 0) || (X - s) / 2 % 2 == 0) && (!(X / 4 % 2 == 0) || (X - s) / 4 % 2 == 0))) (by decide) hX hs8
    simp [subs_and hs] at hb
    obtain ⟨⟨⟨⟨⟨b1, b2⟩, b3⟩, c1⟩, c2⟩, c3⟩ := hb
    refine ⟨if s % 2 = 1 then k else x, if s / 2 % 2 = 1 then k else y, if s / 4 % 2 = 1 then k else z, ?_, ?_, ?_, ?_, ?_, ?_, ?_⟩
    · simp only [List.length_cons]; split <;> omega
    · simp only [List.length_cons]; split <;> omega
    · simp only [List.length_cons]; split <;> omega
    · intro h; simp only [List.length_cons]; rw [if_neg (by omega)]; omega
    · intro h; simp only [List.length_cons]; rw [if_neg (by omega)]; omega
    · intro h; simp only [List.length_cons]; rw [if_neg (by omega)]; omega
    · have e1 := skn_pick hs8 (k := k) (x := x) (y := y) (z := z) (by omega) (by omega) (by omega)
      simp only [wk]
      rw [e1, ← hw]
      congr 1
      clear hw e1 hu
      refine wk_same ts _ _ _ _ _ _ (k + 1) (fun i h1 h2 => ⟨?_, ?_, ?_⟩)
      · clear hy hz ey ez b2 b3 c2 c3; split <;> omega
      · clear hx hz ex ez b1 b3 c1 c3; split <;> omega
      · clear hy hx ey ex b2 b1 c2 c1; split <;> omega

/-- The sets of n bidders, where the things go as told. -/
def setsF (os : List Int) (n : Nat) : List Int := (List.range n).map (fun i : Nat => ((skn (os.getD 0 0) (os.getD 1 0) (os.getD 2 0) (i : Int) : Nat) : Int))
/-- What they are worth together. -/
def worthF (ts : List (List Int)) (os : List Int) : Int := wk ts 0 (os.getD 0 0) (os.getD 1 0) (os.getD 2 0)

/-- More things are worth no less. -/
theorem got_more {ts : List (List Int)} : ∀ {X Y : Nat} {v : Int}, Y < 8 → X ∈ subs Y → Got ts X v → Got ts Y v := by
  induction ts with
  | nil => intro X Y v _ _ h; exact h
  | cons t ts ih =>
    rintro X Y v hY hX ⟨s, hs, u, hu, rfl⟩
    have h := all3 (p := fun Y X s => !(X &&& Y == X) || !(s &&& X == s) || (s &&& Y == s && (X - s) &&& (Y - s) == X - s && decide (X - s < 8))) (by decide) hY (subs_lt hX) (subs_lt hs)
    simp [subs_and hX, subs_and hs] at h
    exact ⟨s, by simp [subs, subs_lt hs, h.1], u, ih (by omega) (by simp [subs, h]) hu, rfl⟩
theorem sv_more {ts : List (List Int)} (hz : ∀ t ∈ ts, T t 0 = 0) {X Y : Nat} (hY : Y < 8) (hX : X ∈ subs Y) : sv ts X ≤ sv ts Y := got_le (got_more hY hX (got_sv hz X))
theorem sv_last {ts : List (List Int)} {t : List Int} (hz : ∀ u ∈ ts, T u 0 = 0) (ht : T t 0 = 0) {x : Nat} (hx : x < 8) : sv ts x ≤ sv (ts ++ [t]) x := by
  rw [sv_snoc hz ht hx]
  have h := le_mx (f := fun p => sv ts p + T t (x - p)) (sub_self hx)
  simp only [Nat.sub_self, ht] at h
  unfold jn
  omega

end Go.Proofs.Ytpildecpabeanaa

/-
  The best way to give three things to bidders, the first of the best: what both sides' loops over all ways come to.
-/
namespace Go.Proofs.Ytpildecpabeanaa

/-- The better of the best so far and one more. -/
def pick (f : List Int → Int) (o : Option (List Int)) (x : List Int) : Option (List Int) := match o with
  | none => some x
  | some b => if f b < f x then some x else some b
def bestA (f : List Int → Int) (L : List (List Int)) : Option (List Int) := L.foldl (pick f) none
theorem bestA_snoc (f : List Int → Int) (L : List (List Int)) (x : List Int) : bestA f (L ++ [x]) = pick f (bestA f L) x := by simp [bestA]
theorem bestA_first (f : List Int → Int) (x : List Int) : bestA f [x] = some x := rfl
theorem bestA_some {f : List Int → Int} : ∀ {n : Nat} {L : List (List Int)}, L.length = n → L ≠ [] → ∃ b, bestA f L = some b ∧ b ∈ L ∧ ∀ x ∈ L, f x ≤ f b := by
  intro n
  induction n with
  | zero => intro L h hne; exact absurd (List.eq_nil_of_length_eq_zero h) hne
  | succ n ih =>
    intro L h hne
    obtain ⟨i, x, rfl⟩ : ∃ i x, L = i ++ [x] := ⟨L.dropLast, L.getLast hne, (List.dropLast_concat_getLast hne).symm⟩
    rw [bestA_snoc]
    by_cases hi : i = []
    · subst hi; exact ⟨x, rfl, by simp, by simp⟩
    · obtain ⟨b, hb, hm, hle⟩ := ih (by simpa using h) hi
      rw [hb]
      show ∃ c, (if f b < f x then some x else some b) = some c ∧ _
      by_cases hlt : f b < f x
      · refine ⟨x, by rw [if_pos hlt], by simp, fun y hy => ?_⟩
        rcases List.mem_append.1 hy with hy | hy
        · have := hle y hy; omega
        · simp at hy; rw [hy]; omega
      · refine ⟨b, by rw [if_neg hlt], by simp [hm], fun y hy => ?_⟩
        rcases List.mem_append.1 hy with hy | hy
        · exact hle y hy
        · simp at hy; rw [hy]; omega

/-- What is done of all ways, and what comes next. -/
def DoneTo (n : Nat) (L : List (List Int)) : Option (List Int) → Prop
  | some ys => allF (n : Int) (List.replicate 3 0) = L ++ allF (n : Int) ys
  | none => allF (n : Int) (List.replicate 3 0) = L
theorem DoneTo.start (n : Nat) : DoneTo n [] (some (List.replicate 3 0)) := by show allF _ _ = _; simp
theorem DoneTo.step {n : Nat} {L : List (List Int)} {ys : List Int} (h : DoneTo n L (some ys)) (hf : Fit n 3 ys) : DoneTo n (L ++ [ys]) (nextF ys n) := by
  have h : allF (n : Int) (List.replicate 3 0) = _ := h
  cases hn : nextF ys n with
  | none => rw [allF_last hn] at h; exact h
  | some zs => rw [allF_next (by omega) hf.2 hn] at h; show allF _ _ = _; rw [h]; simp

theorem ways_all : ((List.range 5).all fun t => (List.range (t + 1)).all fun x => (List.range (t + 1)).all fun y => (List.range (t + 1)).all fun z => (allF (t : Int) [0, 0, 0]).elem [(x : Int), (y : Int), (z : Int)]) = true := by decide +kernel
theorem ways_come {n : Nat} {x y z : Int} (hn : n ≤ 4) (hx : 0 ≤ x ∧ x ≤ n) (hy : 0 ≤ y ∧ y ≤ n) (hz : 0 ≤ z ∧ z ≤ n) : [x, y, z] ∈ allF (n : Int) (List.replicate 3 0) := by
  have h := ways_all
  rw [List.all_eq_true] at h
  have h := h n (by simp; omega)
  rw [List.all_eq_true] at h
  have h := h x.toNat (by simp; omega)
  rw [List.all_eq_true] at h
  have h := h y.toNat (by simp; omega)
  rw [List.all_eq_true] at h
  have h := h z.toNat (by simp; omega)
  rw [show ((x.toNat : Nat) : Int) = x by omega, show ((y.toNat : Nat) : Int) = y by omega, show ((z.toNat : Nat) : Int) = z by omega] at h
  exact List.elem_iff.1 h

/-- The best way. -/
noncomputable def wayF (ts : List (List Int)) : List Int := (bestA (worthF ts) (allF (ts.length : Int) (List.replicate 3 0))).getD []
theorem allF_ne (n : Nat) : allF (n : Int) (List.replicate 3 0) ≠ [] := by unfold allF; rw [runF]; simp
theorem wayF_is (ts : List (List Int)) : bestA (worthF ts) (allF (ts.length : Int) (List.replicate 3 0)) = some (wayF ts) := by
  obtain ⟨b, hb, _⟩ := bestA_some (f := worthF ts) rfl (allF_ne ts.length)
  unfold wayF
  rw [hb]; rfl
/-- What the best way is worth is the best worth of all things. -/
theorem wayF_worth {ts : List (List Int)} (hz : ∀ t ∈ ts, T t 0 = 0) (hn : ts.length ≤ 4) : worthF ts (wayF ts) = sv ts 7 := by
  obtain ⟨b, hb, hm, hle⟩ := bestA_some (f := worthF ts) rfl (allF_ne ts.length)
  have hw := wayF_is ts
  rw [hb] at hw
  injection hw with hw
  rw [← hw]
  apply Int.le_antisymm
  · have h8 := ge_lt 0 (b.getD 0 0) (b.getD 1 0) (b.getD 2 0)
    have hm7 : ge 0 (b.getD 0 0) (b.getD 1 0) (b.getD 2 0) ∈ subs 7 := by
      have h7 : ∀ x, x < 8 → x ∈ subs 7 := by decide
      exact h7 _ h8
    exact got_le (got_more (by omega) hm7 (wk_got ts _ _ _ 0))
  · obtain ⟨x, y, z, hx, hy, hz', _, _, _, he⟩ := got_wk ts 7 0 _ (by omega) (got_sv hz 7)
    have hmem := ways_come (n := ts.length) hn (x := x) (y := y) (z := z) (by omega) (by omega) (by omega)
    have := hle _ hmem
    unfold worthF at this ⊢
    simp at this he ⊢
    omega
theorem wayF_mem (ts : List (List Int)) : wayF ts ∈ allF (ts.length : Int) (List.replicate 3 0) := by
  obtain ⟨b, hb, hm, _⟩ := bestA_some (f := worthF ts) rfl (allF_ne ts.length)
  have hw := wayF_is ts
  rw [hb] at hw
  injection hw with hw
  rw [← hw]; exact hm

end Go.Proofs.Ytpildecpabeanaa

/-
  Plain words for splits: whose sets, what they are worth together, the joined tables step by step, bounds; what things are worth alone.
-/
namespace Go.Proofs.Ytpildecpabeanaa

/-- What bidder i has of the first k things. -/
def sknTo (os : List Int) (i : Int) : Nat → Nat
  | 0 => 0
  | k + 1 => sknTo os i k + (if os.getD k 0 = i then 2 ^ k else 0)
theorem sknTo_lt (os : List Int) (i : Int) : ∀ k, k ≤ 3 → sknTo os i k < 2 ^ k
  | 0, _ => by simp [sknTo]
  | k + 1, h => by
    have := sknTo_lt os i k (by omega)
    have e : 2 ^ (k + 1) = 2 ^ k + 2 ^ k := by omega
    simp only [sknTo]; split <;> omega
theorem sknTo_three (os : List Int) (i : Int) : sknTo os i 3 = skn (os.getD 0 0) (os.getD 1 0) (os.getD 2 0) i := by simp [sknTo, skn]
/-- The sets of n bidders, of the first k things. -/
def setsTo (os : List Int) (n k : Nat) : List Int := (List.range n).map (fun i : Nat => ((sknTo os (i : Int) k : Nat) : Int))
theorem setsTo_zero (os : List Int) (n : Nat) : setsTo os n 0 = List.replicate n 0 := by
  unfold setsTo sknTo
  apply List.ext_getElem
  · simp
  · intro i h1 h2; simp
theorem setsTo_len (os : List Int) (n k : Nat) : (setsTo os n k).length = n := by simp [setsTo]
theorem setsTo_at (os : List Int) {n i : Nat} (k : Nat) (h : i < n) : (setsTo os n k)[i]? = some ((sknTo os (i : Int) k : Nat) : Int) := by simp [setsTo, h]
theorem setsTo_hit {os : List Int} {n k i : Nat} (h : os[k]? = some (i : Int)) : setsTo os n (k + 1) = (setsTo os n k).set i (((sknTo os (i : Int) k : Nat) : Int) + ((2 ^ k : Nat) : Int)) := by
  have hg : os.getD k 0 = (i : Int) := by rw [List.getD_eq_getElem?_getD, h]; rfl
  apply List.ext_getElem
  · simp [setsTo]
  · intro j h1 h2
    simp only [setsTo, List.getElem_map, List.getElem_range, sknTo, hg, List.getElem_set]
    by_cases e : i = j
    · subst e; simp
    · rw [if_neg e, if_neg (by omega)]; simp
theorem setsTo_miss {os : List Int} {n k : Nat} {v : Int} (h : os[k]? = some v) (hv : (n : Int) ≤ v ∨ v < 0) : setsTo os n (k + 1) = setsTo os n k := by
  have hg : os.getD k 0 = v := by rw [List.getD_eq_getElem?_getD, h]; rfl
  apply List.ext_getElem
  · simp [setsTo]
  · intro j h1 h2
    have hj : j < n := by simpa [setsTo] using h1
    simp only [setsTo, List.getElem_map, List.getElem_range, sknTo, hg]
    rw [if_neg (by omega)]; simp
theorem setsTo_three (os : List Int) (n : Nat) : setsTo os n 3 = setsF os n := by
  unfold setsTo setsF
  simp only [sknTo_three]
theorem setsF_len (os : List Int) (n : Nat) : (setsF os n).length = n := by simp [setsF]
/-- The set of bidder i. -/
def setOf (os : List Int) (i : Nat) : Nat := skn (os.getD 0 0) (os.getD 1 0) (os.getD 2 0) (i : Int)
theorem setOf_lt (os : List Int) (i : Nat) : setOf os i < 8 := skn_lt _ _ _ _
theorem setsF_at (os : List Int) {n i : Nat} (h : i < n) : (setsF os n)[i]? = some ((setOf os i : Nat) : Int) := by simp [setsF, setOf, h]
theorem wk_snoc (ts : List (List Int)) (t : List Int) (x y z : Int) : ∀ k : Int, wk (ts ++ [t]) k x y z = wk ts k x y z + T t (skn x y z (k + ts.length)) := by
  induction ts with
  | nil => intro k; simp [wk]
  | cons a ts ih =>
    intro k
    simp only [List.cons_append, wk, ih (k + 1), List.length_cons]
    have : (k + 1 : Int) + (ts.length : Nat) = k + ((ts.length + 1 : Nat) : Int) := by omega
    rw [this]
    omega
theorem worthF_zero (ts : List (List Int)) (os : List Int) : worthF (ts.take 0) os = 0 := by simp [worthF, wk]
theorem worthF_step {ts : List (List Int)} (os : List Int) {k : Nat} {t : List Int} (h : ts[k]? = some t) : worthF (ts.take (k + 1)) os = worthF (ts.take k) os + T t (setOf os k) := by
  have hk : k < ts.length := by rcases Nat.lt_or_ge k ts.length with h1 | h1; exact h1; rw [List.getElem?_eq_none h1] at h; cases h
  have e : ts.take (k + 1) = ts.take k ++ [t] := by rw [List.take_add_one, h]; rfl
  unfold worthF
  rw [e, wk_snoc]
  unfold setOf
  congr 3
  rw [List.length_take, Nat.min_eq_left (by omega)]; omega
theorem VT.bd {t : List Int} (h : VT t) {s : Nat} (hs : s < 8) : 0 ≤ T t s ∧ T t s ≤ 30 := (h.2.2 s hs).1
theorem worthF_bd {ts : List (List Int)} (h : ∀ t ∈ ts, VT t) (os : List Int) : 0 ≤ worthF ts os ∧ worthF ts os ≤ 30 * ts.length := by
  have : ∀ (ts : List (List Int)), (∀ t ∈ ts, VT t) → ∀ (k x y z : Int), 0 ≤ wk ts k x y z ∧ wk ts k x y z ≤ 30 * ts.length := by
    intro ts
    induction ts with
    | nil => intro _ k x y z; simp [wk]
    | cons t ts ih =>
      intro h k x y z
      have h1 := ih (fun u hu => h u (by simp [hu])) (k + 1) x y z
      have h2 := (h t (by simp)).bd (skn_lt x y z k)
      simp only [wk, List.length_cons]
      omega
  exact this ts h 0 _ _ _

theorem sv_bd {ts : List (List Int)} (h : ∀ t ∈ ts, VT t) : ∀ x : Nat, x < 8 → sv ts x ≤ 30 * ts.length := by
  induction ts with
  | nil => intro x _; simp [sv]
  | cons t ts ih =>
    intro x hx
    simp only [sv]
    refine mx_le (by omega) (fun s hs => ?_)
    have h1 := ih (fun u hu => h u (by simp [hu])) (x - s) (by omega)
    have h2 := (h t (by simp)).bd (subs_lt hs)
    simp only [List.length_cons]
    omega

/-- More is worth no more to more. -/
def Mod (t : List Int) : Prop := ∀ s, s < 8 → ∀ x, x < 8 → T t (s ||| x) + T t (s &&& x) ≤ T t s + T t x

/-- What the things of a set are worth alone. -/
def alone (t : List Int) (s : Nat) : List Int := (th s).map (fun j => T t (2 ^ j.toNat))
def aloneTo (t : List Int) (s k : Nat) : List Int := (thTo s k).map (fun j => T t (2 ^ j.toNat))
/-- What the model sums up, and its greatest. -/
def sumAl (t : List Int) (s : Nat) : Nat → Int
  | 0 => 0
  | k + 1 => sumAl t s k + ((s / 2 ^ k % 2 : Nat) : Int) * T t (2 ^ k)
def mostAl (t : List Int) (s : Nat) : Nat → Int
  | 0 => 0
  | k + 1 => max (mostAl t s k) (((s / 2 ^ k % 2 : Nat) : Int) * T t (2 ^ k))
theorem alone_len (t : List Int) (s : Nat) : (alone t s).length ≤ 3 := by
  unfold alone th
  rw [List.length_map]
  have : ∀ k, (thTo s k).length ≤ k := by
    intro k
    induction k with
    | zero => simp [thTo]
    | succ k ih =>
      simp only [thTo]
      split
      · rw [List.length_append]; simp; omega
      · omega
  exact this 3
theorem alone_sum (t : List Int) {s : Nat} (hs : s < 8) : (alone t s).sum = sumAl t s 3 := by
  rcases nat8 hs with rfl | rfl | rfl | rfl | rfl | rfl | rfl | rfl <;> simp [alone, th, thTo, sumAl] <;> omega
theorem alone_max {t : List Int} (h : VT t) {s : Nat} (hs : s < 8) : (alone t s ++ [0]).foldl max 0 = mostAl t s 3 := by
  have h1 := (h.bd (s := 1) (by omega)).1
  have h2 := (h.bd (s := 2) (by omega)).1
  have h4 := (h.bd (s := 4) (by omega)).1
  rcases nat8 hs with rfl | rfl | rfl | rfl | rfl | rfl | rfl | rfl <;> simp [alone, th, thTo, mostAl] <;> omega


theorem foldl_len (f : List Int → Nat → List Int) (hf : ∀ bs q, bs.length = 8 → (f bs q).length = 8) : ∀ (l : List Nat) (bs : List Int), bs.length = 8 → (l.foldl f bs).length = 8
  | [], _, h => h
  | q :: l, bs, h => by simp only [List.foldl_cons]; exact foldl_len f hf l _ (hf bs q h)
theorem tgStep_len (a b : Nat → Int) (p : Nat) (bs : List Int) (q : Nat) (h : bs.length = 8) : (tgStep a b p bs q).length = 8 := by unfold tgStep; split <;> simp [h]
theorem tgRow_len (a b : Nat → Int) (bs : List Int) (p : Nat) (h : bs.length = 8) : (tgRow a b bs p).length = 8 := by unfold tgRow; exact foldl_len _ (fun bs q h => tgStep_len a b p bs q h) _ _ h

/-- Two as one: the first p parts of the one are done, and of the next one the first r of the other. -/
def tgTo (a b : Nat → Int) (p r : Nat) : List Int := (List.range r).foldl (tgStep a b p) ((List.range p).foldl (tgRow a b) (List.replicate 8 0))
theorem tgTo_start (a b : Nat → Int) : tgTo a b 0 0 = List.replicate 8 0 := by simp [tgTo]
theorem tgTo_next (a b : Nat → Int) (p r : Nat) : tgTo a b p (r + 1) = tgStep a b p (tgTo a b p r) r := by unfold tgTo; rw [List.range_succ, List.foldl_append]; simp only [List.foldl_cons, List.foldl_nil]
theorem tgTo_row (a b : Nat → Int) (p : Nat) : tgTo a b p 8 = tgTo a b (p + 1) 0 := by
  unfold tgTo
  rw [List.range_succ (n := p), List.foldl_append]
  simp only [List.foldl_cons, List.foldl_nil, List.range_zero]
  unfold tgRow
  rfl
theorem tgTo_all (a b : Nat → Int) : tgTo a b 8 0 = tg a b := by simp only [tgTo, tg, List.range_zero, List.foldl_nil]
theorem tgTo_len (a b : Nat → Int) (p r : Nat) : (tgTo a b p r).length = 8 := by
  unfold tgTo
  exact foldl_len _ (fun bs q h => tgStep_len a b p bs q h) _ _ (foldl_len _ (fun bs q h => tgRow_len a b bs q h) _ _ (by simp))

/-- Eight numbers from 0 to a bound. -/
def Bd (M : Int) (l : List Int) : Prop := l.length = 8 ∧ ∀ s, s < 8 → 0 ≤ T l s ∧ T l s ≤ M
theorem T_set {l : List Int} {i s : Nat} {v : Int} (hi : i < l.length) : T (l.set i v) s = if i = s then v else T l s := by
  unfold T
  rw [List.getD_eq_getElem?_getD, List.getD_eq_getElem?_getD, List.getElem?_set]
  split
  · simp
  · rfl
theorem Bd.zero {M : Int} (h : 0 ≤ M) : Bd M (List.replicate 8 0) := ⟨by simp, fun s hs => by
  have : T (List.replicate 8 0) s = 0 := by rcases nat8 hs with rfl | rfl | rfl | rfl | rfl | rfl | rfl | rfl <;> rfl
  omega⟩
theorem or8 {p r : Nat} (hp : p < 8) (hr : r < 8) : p ||| r < 8 := by
  have : ∀ p, p < 8 → ∀ r, r < 8 → p ||| r < 8 := by decide
  exact this p hp r hr
theorem tgStep_yes {a b : Nat → Int} {p r : Nat} (bs : List Int) (h : p &&& r = 0) : tgStep a b p bs r = bs.set (p ||| r) (max (T bs (p ||| r)) (a p + b r)) := by unfold tgStep; rw [if_pos h]
theorem tgStep_no {a b : Nat → Int} {p r : Nat} (bs : List Int) (h : ¬ p &&& r = 0) : tgStep a b p bs r = bs := by unfold tgStep; rw [if_neg h]
theorem foldl_bd {M : Int} (f : List Int → Nat → List Int) : ∀ (l : List Nat) (_hf : ∀ bs, ∀ q ∈ l, Bd M bs → Bd M (f bs q)) (bs : List Int), Bd M bs → Bd M (l.foldl f bs)
  | [], _, _, h => h
  | q :: l, hf, bs, h => by simp only [List.foldl_cons]; exact foldl_bd f l (fun bs q hq => hf bs q (by simp [hq])) _ (hf bs q (by simp) h)
theorem tgStep_bd {M A B : Int} {a b : Nat → Int} (ha : ∀ s, s < 8 → 0 ≤ a s ∧ a s ≤ A) (hb : ∀ s, s < 8 → 0 ≤ b s ∧ b s ≤ B) (hM : A + B ≤ M) {p r : Nat} (hp : p < 8) (hr : r < 8) {bs : List Int} (h : Bd M bs) : Bd M (tgStep a b p bs r) := by
  by_cases hz : p &&& r = 0
  · rw [tgStep_yes bs hz]
    refine ⟨by rw [List.length_set]; exact h.1, fun s hs => ?_⟩
    rw [T_set (by rw [h.1]; exact or8 hp hr)]
    have h1 := h.2 (p ||| r) (or8 hp hr)
    have h2 := h.2 s hs
    have h3 := ha p hp
    have h4 := hb r hr
    split <;> omega
  · rw [tgStep_no bs hz]; exact h
theorem tgTo_bd {M A B : Int} {a b : Nat → Int} (ha : ∀ s, s < 8 → 0 ≤ a s ∧ a s ≤ A) (hb : ∀ s, s < 8 → 0 ≤ b s ∧ b s ≤ B) (hM : A + B ≤ M) {p r : Nat} (hp : p ≤ 8) (hr : r ≤ 8) (hpr : r = 0 ∨ p < 8) : Bd M (tgTo a b p r) := by
  have h0 := ha 0 (by omega)
  have h1 := hb 0 (by omega)
  unfold tgTo
  have hrow : ∀ q, q < 8 → ∀ r, r ≤ 8 → ∀ bs, Bd M bs → Bd M ((List.range r).foldl (tgStep a b q) bs) := fun q hq r hr bs h =>
    foldl_bd _ _ (fun bs s hs h => tgStep_bd ha hb hM hq (by have := List.mem_range.1 hs; omega) h) _ h
  have hall : Bd M ((List.range p).foldl (tgRow a b) (List.replicate 8 0)) :=
    foldl_bd _ _ (fun bs s hs h => hrow s (by have := List.mem_range.1 hs; omega) 8 (Nat.le_refl _) bs h) _ (Bd.zero (by omega))
  rcases hpr with rfl | hp8
  · exact hall
  · exact hrow p hp8 r hr _ hall
theorem jnAll_step {ts : List (List Int)} {k : Nat} {t : List Int} (h : ts[k]? = some t) : jnAll (ts.take (k + 1)) = tg (T (jnAll (ts.take k))) (T t) := by
  have e : ts.take (k + 1) = ts.take k ++ [t] := by rw [List.take_add_one, h]; rfl
  rw [e, jnAll_snoc]
theorem jnAll_zero (ts : List (List Int)) : jnAll (ts.take 0) = List.replicate 8 0 := by simp [jnAll]
theorem jnAll_bd {ts : List (List Int)} (h : ∀ t ∈ ts, VT t) : Bd (30 * ts.length) (jnAll ts) :=
  ⟨jnAll_len ts, fun s hs => by rw [jnAll_at (fun t ht => (h t ht).2.1) hs]; exact ⟨sv_nonneg _ _, sv_bd h s hs⟩⟩

/-- The model's best of a set, of the first s parts. -/
def mxTo (t : List Int) (ts : List (List Int)) (x s : Nat) : Int := mx (fun s => T t s + sv ts (x - s)) ((List.range s).filter (fun s => s &&& x == s))
theorem mxTo_zero (t : List Int) (ts : List (List Int)) (x : Nat) : mxTo t ts x 0 = 0 := by simp [mxTo, mx]
theorem mxTo_yes (t : List Int) (ts : List (List Int)) {x s : Nat} (h : s &&& x = s) : mxTo t ts x (s + 1) = max (mxTo t ts x s) (T t s + sv ts (x - s)) := by
  unfold mxTo
  rw [List.range_succ, List.filter_append, show [s].filter (fun s => s &&& x == s) = [s] by simp [h], mx_snoc]
theorem mxTo_no (t : List Int) (ts : List (List Int)) {x s : Nat} (h : ¬ s &&& x = s) : mxTo t ts x (s + 1) = mxTo t ts x s := by
  unfold mxTo
  rw [List.range_succ, List.filter_append, show [s].filter (fun s => s &&& x == s) = [] by simp [h], List.append_nil]
theorem mxTo_all (t : List Int) (ts : List (List Int)) {x : Nat} (hx : x < 8) : mxTo t ts x (x + 1) = sv (t :: ts) x := by
  have e : ∀ x, x < 8 → (List.range (x + 1)).filter (fun s => s &&& x == s) = subs x := by decide
  unfold mxTo
  rw [e x hx]; rfl
theorem mxTo_bd {t : List Int} {ts : List (List Int)} (ht : VT t) (h : ∀ t ∈ ts, VT t) {x s : Nat} (hx : x < 8) (hs : s ≤ 8) : 0 ≤ mxTo t ts x s ∧ mxTo t ts x s ≤ 30 * (ts.length + 1) := by
  refine ⟨mx_nonneg _ _, mx_le (by omega) (fun r hr => ?_)⟩
  have h1 := List.mem_range.1 (List.mem_filter.1 hr).1
  have h2 := ht.bd (s := r) (by omega)
  have h3 := sv_bd h (x - r) (by omega)
  omega

end Go.Proofs.Ytpildecpabeanaa
