/-
  Lists of numbers one after the other, as the last place counts fastest: what comes next, how many are to come, all of them.
-/
import Derived.Test.YtnojlapjkdihmaaMem
import Derived.Deep.RegionWith
namespace Go.Proofs.Ytnojlapjkdihmaa
open Go.RowKit

/-- The bids that follow, the least digit first; none behind the last. -/
def nextR : List Int → Int → Option (List Int)
  | [], _ => none
  | x :: xs, top => if x < top then some ((x + 1) :: xs) else (nextR xs top).map (0 :: ·)
def nextF (xs : List Int) (top : Int) : Option (List Int) := (nextR xs.reverse top).map List.reverse

theorem nextF_nil (top : Int) : nextF [] top = none := rfl
theorem nextF_snoc (xs : List Int) (x top : Int) : nextF (xs ++ [x]) top = if x < top then some (xs ++ [x + 1]) else (nextF xs top).map (· ++ [0]) := by
  unfold nextF
  rw [List.reverse_append]
  simp only [List.reverse_cons, List.reverse_nil, List.nil_append, List.singleton_append, nextR]
  split
  · simp
  · cases nextR xs.reverse top <;> simp

/-- How many are still to come. -/
def leftR : List Int → Int → Nat
  | [], _ => 0
  | x :: xs, top => (top - x).toNat + (top.toNat + 1) * leftR xs top
theorem leftR_lt : ∀ (xs ys : List Int) (top : Int), 0 ≤ top → (∀ x ∈ xs, 0 ≤ x ∧ x ≤ top) → nextR xs top = some ys → leftR ys top < leftR xs top ∧ (∀ x ∈ ys, 0 ≤ x ∧ x ≤ top) ∧ ys.length = xs.length
  | [], ys, top, _, _, h => by simp [nextR] at h
  | x :: xs, ys, top, h0, hx, h => by
    rw [nextR] at h
    have hxx := hx x (by simp)
    split at h
    · have h := Option.some.inj h
      subst h
      refine ⟨?_, ?_, by simp⟩
      · simp only [leftR]; omega
      · intro z hz
        rcases List.mem_cons.1 hz with h | h
        · subst h; omega
        · exact hx z (by simp [h])
    · cases hn : nextR xs top with
      | none => rw [hn] at h; simp at h
      | some zs =>
        rw [hn] at h
        have h : 0 :: zs = ys := by simpa using h
        subst h
        obtain ⟨h1, h2, h3⟩ := leftR_lt xs zs top h0 (fun z hz => hx z (by simp [hz])) hn
        refine ⟨?_, ?_, by simp [h3]⟩
        · simp only [leftR]
          have hxt : (top - x).toNat = 0 := by omega
          have h4 : (top - 0).toNat = top.toNat := by omega
          have h5 : leftR xs top = leftR zs top + 1 + (leftR xs top - leftR zs top - 1) := by omega
          rw [hxt, h4, h5, Nat.mul_add, Nat.mul_add]
          omega
        · intro z hz
          rcases List.mem_cons.1 hz with h | h
          · subst h; omega
          · exact h2 z h

def leftF (xs : List Int) (top : Int) : Nat := leftR xs.reverse top
theorem leftF_lt {xs ys : List Int} {top : Int} (h0 : 0 ≤ top) (hx : ∀ x ∈ xs, 0 ≤ x ∧ x ≤ top) (h : nextF xs top = some ys) : leftF ys top < leftF xs top ∧ (∀ x ∈ ys, 0 ≤ x ∧ x ≤ top) ∧ ys.length = xs.length := by
  unfold nextF at h
  cases hn : nextR xs.reverse top with
  | none => rw [hn] at h; simp at h
  | some zs =>
    rw [hn] at h
    have h : zs.reverse = ys := by simpa using h
    subst h
    obtain ⟨h1, h2, h3⟩ := leftR_lt xs.reverse zs top h0 (fun z hz => hx z (by simpa using hz)) hn
    exact ⟨by unfold leftF; rw [List.reverse_reverse]; exact h1, fun z hz => h2 z (by simpa using hz), by rw [List.length_reverse, h3, List.length_reverse]⟩

/-- All bids from xs on, at most n of them. -/
def runF (top : Int) : Nat → List Int → List (List Int)
  | 0, _ => []
  | n + 1, xs => xs :: (match nextF xs top with
    | some ys => runF top n ys
    | none => [])
/-- All bids from xs on. -/
def allF (top : Int) (xs : List Int) : List (List Int) := runF top (leftF xs top + 1) xs

theorem runF_more (top : Int) (h0 : 0 ≤ top) : ∀ (n m : Nat) (xs : List Int), (∀ x ∈ xs, 0 ≤ x ∧ x ≤ top) → leftF xs top < n → leftF xs top < m → runF top n xs = runF top m xs
  | 0, m, xs, _, h, _ => by omega
  | n + 1, 0, xs, _, _, h => by omega
  | n + 1, m + 1, xs, hx, h1, h2 => by
    rw [runF, runF]
    cases hn : nextF xs top with
    | none => rfl
    | some ys =>
      obtain ⟨h3, h4, _⟩ := leftF_lt h0 hx hn
      simp only
      rw [runF_more top h0 n m ys h4 (by omega) (by omega)]

theorem allF_next {xs ys : List Int} {top : Int} (h0 : 0 ≤ top) (hx : ∀ x ∈ xs, 0 ≤ x ∧ x ≤ top) (h : nextF xs top = some ys) : allF top xs = xs :: allF top ys := by
  obtain ⟨h3, h4, _⟩ := leftF_lt h0 hx h
  unfold allF
  rw [runF, h]
  simp only
  rw [runF_more top h0 (leftF xs top) (leftF ys top + 1) ys h4 h3 (by omega)]
theorem allF_last {xs : List Int} {top : Int} (h : nextF xs top = none) : allF top xs = [xs] := by unfold allF; rw [runF, h]

/-- The numbers that a slice value reads as. -/
def readInts (w : World) : Value → List Int
  | .slice (some ⟨b, off, _⟩) len _ => (List.range len).map (fun k => match w.cell? ⟨b, off + k, none⟩ with
    | some (.int _ x) => x
    | _ => 0)
  | _ => []
theorem readInts_own {w : World} {B g c : Nat} {zs : List Int} (h : Own w B (some ⟨g, 0, none⟩) c zs) : readInts w (.slice (some ⟨g, 0, none⟩) zs.length c) = zs := by
  apply List.ext_getElem
  · simp [readInts]
  · intro i h1 h2
    have := h.cell (i := i) (List.getElem?_eq_getElem h2)
    simp [readInts, this]
/-- How many rounds are still to come. -/
def roundsLeft (top : Int) (w : World) (v : Value) : Nat := if readInts w v = [] then 0 else leftF (readInts w v) top + 1
theorem roundsLeft_own {w : World} {B g c : Nat} {zs : List Int} {top : Int} (h : Own w B (some ⟨g, 0, none⟩) c zs) (h1 : 1 ≤ zs.length) : roundsLeft top w (.slice (some ⟨g, 0, none⟩) zs.length c) = leftF zs top + 1 := by
  unfold roundsLeft
  rw [readInts_own h, if_neg (by intro e; rw [e] at h1; simp at h1)]
theorem roundsLeft_nil (top : Int) (w : World) : roundsLeft top w (.slice none 0 0) = 0 := by simp [roundsLeft, readInts]

/-- Bids that may come. -/
def Fit (top n : Nat) (ys : List Int) : Prop := ys.length = n ∧ ∀ x ∈ ys, 0 ≤ x ∧ x ≤ (top : Int)
theorem Fit.zero (top n : Nat) : Fit top n (List.replicate n 0) := ⟨by simp, fun x hx => by rw [List.eq_of_mem_replicate hx]; omega⟩
theorem Fit.next {top n : Nat} {ys zs : List Int} (h : Fit top n ys) (hn : nextF ys top = some zs) : Fit top n zs ∧ leftF zs top < leftF ys top := by
  obtain ⟨h1, h2, h3⟩ := leftF_lt (by omega) h.2 hn
  exact ⟨⟨by rw [h3]; exact h.1, h2⟩, h1⟩

end Go.Proofs.Ytnojlapjkdihmaa

/-
  Chapter 1: the contracts of next, nextBids, honest, calm and allRest.
-/
namespace Go.Proofs.Ytnojlapjkdihmaa
open Go.RowKit

/-- What of the first j is still to be turned, noughts behind. -/
def tailed (xs : List Int) (j : Nat) : List Int := xs.take j ++ List.replicate (xs.length - j) 0
theorem tailed_len (xs : List Int) (j : Nat) (hj : j ≤ xs.length) : (tailed xs j).length = xs.length := by simp [tailed]; omega
theorem tailed_all (xs : List Int) : tailed xs xs.length = xs := by simp [tailed]

theorem tailed_at {xs : List Int} {j : Nat} {x : Int} (hx : xs[j]? = some x) : (tailed xs (j + 1))[j]? = some x := by
  have hj := (List.getElem?_eq_some_iff.1 hx).1
  unfold tailed
  rw [List.getElem?_append_left (by simp; omega), List.getElem?_take_of_lt (by omega), hx]
theorem tailed_zero {xs : List Int} {j : Nat} (hj : j < xs.length) : (tailed xs (j + 1)).set j 0 = tailed xs j := by
  apply List.ext_getElem?
  intro k
  unfold tailed
  simp only [List.getElem?_set, List.getElem?_append, List.length_append, List.length_take, List.length_replicate, List.getElem?_take, List.getElem?_replicate]
  rcases Nat.lt_trichotomy k j with h | h | h
  · simp [show ¬ j = k by omega, show k < min (j + 1) xs.length by omega, show k < min j xs.length by omega, h, show k < j + 1 by omega]
  · subst h
    simp [show k < min (k + 1) xs.length + (xs.length - (k + 1)) by omega, show min k xs.length = k by omega, show 0 < xs.length - k by omega]
  · simp [show ¬ j = k by omega, show ¬ k < min (j + 1) xs.length by omega, show ¬ k < min j xs.length by omega]
    have e1 : k - min (j + 1) xs.length < xs.length - (j + 1) ↔ k - min j xs.length < xs.length - j := by omega
    by_cases hh : k - min (j + 1) xs.length < xs.length - (j + 1)
    · rw [if_pos hh, if_pos (e1.1 hh)]
    · rw [if_neg hh, if_neg (fun x => hh (e1.2 x))]

/-- Where the next bids come from when the last ones are at the top. -/
def NextIs (xs : List Int) (top : Int) (j : Nat) : Prop := nextF xs top = (nextF (xs.take j) top).map (· ++ List.replicate (xs.length - j) 0)
theorem NextIs.start (xs : List Int) (top : Int) : NextIs xs top xs.length := by unfold NextIs; simp
theorem NextIs.up {xs : List Int} {top x : Int} {j : Nat} (h : NextIs xs top (j + 1)) (hx : xs[j]? = some x) (hlt : x < top) : nextF xs top = some ((tailed xs (j + 1)).set j (x + 1)) := by
  have hj := (List.getElem?_eq_some_iff.1 hx).1
  have ht : xs.take (j + 1) = xs.take j ++ [x] := by rw [List.take_add_one, hx]; rfl
  rw [h, ht, nextF_snoc, if_pos hlt]
  simp only [Option.map_some]
  congr 1
  unfold tailed
  rw [ht, List.set_append, if_pos (by simp; omega), List.set_append, if_neg (by simp; omega)]
  simp [show min j xs.length = j by omega]
theorem NextIs.down {xs : List Int} {top x : Int} {j : Nat} (h : NextIs xs top (j + 1)) (hx : xs[j]? = some x) (hge : ¬ x < top) : NextIs xs top j := by
  have hj := (List.getElem?_eq_some_iff.1 hx).1
  have ht : xs.take (j + 1) = xs.take j ++ [x] := by rw [List.take_add_one, hx]; rfl
  unfold NextIs at h ⊢
  rw [h, ht, nextF_snoc, if_neg hge]
  rw [Option.map_map]
  congr 1
  funext l
  simp only [Function.comp, List.append_assoc]
  rw [show xs.length - j = 1 + (xs.length - (j + 1)) by omega, ← List.replicate_append_replicate]
  rfl
theorem NextIs.none_ {xs : List Int} {top : Int} (h : NextIs xs top 0) : nextF xs top = none := by rw [h]; simp [nextF_nil]

/-- What next hands back. -/
def NextOut (w : World) (o : Option (List Int)) (e : Ending) (w' : World) : Prop :=
  (∃ zs g c, o = some zs ∧ e = .returned (.slice (some ⟨g, 0, none⟩) zs.length c) ∧ Own w' w.heap.size (some ⟨g, 0, none⟩) c zs ∧ Below w.heap.size w w') ∨
  (o = none ∧ e = .returned (.slice none 0 0) ∧ Below w.heap.size w w')

set_option maxHeartbeats 800000 in
theorem next_any (A : Option Addr) (c : Nat) (xs : List Int) (top : Int) (w : World) (h : Rd w A c xs) (hl : xs.length ≤ 1048576) (ht0 : 0 ≤ top) (ht1 : top ≤ 1048576) (hb : ∀ x ∈ xs, 0 ≤ x ∧ x ≤ top) :
    Calls Try.prog 153 #[.slice A xs.length c, .int .i64 top] w (NextOut w (nextF xs top)) := by
  have hl2 : xs.length ≤ 1099511627776 := by omega
  have hb0 := (Below.refl w.heap.size w).alloc (Nat.le_refl _) (.cells #[] 3)
  have h1 := h.below hb0
  have HB := Lib.hid hb
  clear hb h
  go_enter Try.func153, Try.ntmps153
  go_wp2_with (at_builtin; refine wpList_clone rfl _ _ rfl w.heap.size w.heap.size rfl (own_empty w) A c xs rfl h1 hl2 hb0.size ?_; intro g c1 w1 ho hb1)
  have B1 := hb0.trans hb1
  clear hb0 hb1 h1
  go_loopw [6] (fun i wr => ∃ j : Nat, j ≤ xs.length ∧ i = .int .i64 ((j : Int) - 1) ∧ Own wr w.heap.size (some ⟨g, 0, none⟩) c1 (tailed xs j) ∧ Below w.heap.size w wr ∧ Hid (NextIs xs top j))
    (fun i _ => (intOf i + 1).toNat)
  case atStart => exact ⟨xs.length, Nat.le_refl _, rfl, by rw [tailed_all]; exact ho, B1, Lib.hid (NextIs.start xs top)⟩
  case round =>
    obtain ⟨j, hj, rfl, hor, hbr, HN⟩ := hrel
    cases j with
    | zero =>
      have HE := Lib.hid HN.out.none_
      go_wp2
      go_ret
      exact .inr ⟨HE.out, rfl, hbr⟩
    | succ j =>
      have hjl : j < xs.length := by omega
      have e1 : (((j + 1 : Nat) : Int) - 1) = (j : Int) := by omega
      rw [e1]
      obtain ⟨x, hx⟩ := at_some hjl
      have hxb := HB.out x (List.mem_of_getElem? hx)
      have hx0 := hxb.1
      have hx1 := hxb.2
      have hc := hor.cell (tailed_at hx)
      have hf := hor.free j
      by_cases hlt : x < top
      · have HE := Lib.hid (HN.out.up hx hlt)
        have HS := Lib.hid (hor.set_ j (x + 1))
        have HL : Hid (((tailed xs (j + 1)).set j (x + 1)).length = xs.length) := Lib.hid (by rw [List.length_set, tailed_len xs (j + 1) hj])
        have HB2 := Lib.hid (hbr.setCell hor.ge (p := ⟨g, j, none⟩) (.int .i64 (x + 1)))
        clear hx hxb hor e1
        go_wp2
        go_ret
        exact .inl ⟨_, g, c1, HE.out, by rw [HL.out]; rfl, HS.out, HB2.out⟩
      · have HE := Lib.hid (HN.out.down hx hlt)
        have HS : Hid (Own (wr.setCell ⟨g, j, none⟩ (.int .i64 0)) w.heap.size (some ⟨g, 0, none⟩) c1 (tailed xs j)) := Lib.hid (by
          have := hor.set_ j 0
          rwa [tailed_zero hjl] at this)
        have HB2 := Lib.hid (hbr.setCell hor.ge (p := ⟨g, j, none⟩) (.int .i64 0))
        clear hx hxb hor e1
        go_wp2
        go_roundw
        case rel => exact ⟨j, by omega, rfl, HS.out, HB2.out, HE⟩
        case measure => simp [intOf]

end Go.Proofs.Ytnojlapjkdihmaa
