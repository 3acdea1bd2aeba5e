/-
  Chapter 1: the contracts of next, nextBids, honest, calm and allRest.
-/
import Derived.Test.YtpildecpabeanaaG00
import Derived.Deep.RegionWith
import Derived.Test.YtpildecpabeanaaG10
import Derived.Test.YtpildecpabeanaaG02
import Derived.Test.YtpildecpabeanaaG08
import Derived.Deep.RegionLaw
namespace Go.Proofs.Ytpildecpabeanaa
open Go.RowKit

/-- What of the first j is still to be turned, noughts behind. -/
def tailed (xs : List Int) (j : Nat) : List Int := xs.take j ++ List.replicate (xs.length - j) 0
theorem tailed_len (xs : List Int) (j : Nat) (hj : j ≤ xs.length) : (tailed xs j).length = xs.length := by simp [tailed]; omega
theorem tailed_all (xs : List Int) : tailed xs xs.length = xs := by simp [tailed]

theorem tailed_at {xs : List Int} {j : Nat} {x : Int} (hx : xs[j]? = some x) : (tailed xs (j + 1))[j]? = some x := by
  have hj := (List.getElem?_eq_some_iff.1 hx).1
  unfold tailed
  rw [List.getElem?_append_left (by simp; omega), List.getElem?_take_of_lt (by omega), hx]
theorem tailed_zero {xs : List Int} {j : Nat} (hj : j < xs.length) : (tailed xs (j + 1)).set j 0 = tailed xs j := by
  apply List.ext_getElem?
  intro k
  unfold tailed
  simp only [List.getElem?_set, List.getElem?_append, List.length_append, List.length_take, List.length_replicate, List.getElem?_take, List.getElem?_replicate]
  rcases Nat.lt_trichotomy k j with h | h | h
  · simp [show ¬ j = k by omega, show k < min (j + 1) xs.length by omega, show k < min j xs.length by omega, h, show k < j + 1 by omega]
  · subst h
    simp [show k < min (k + 1) xs.length + (xs.length - (k + 1)) by omega, show min k xs.length = k by omega, show 0 < xs.length - k by omega]
  · simp [show ¬ j = k by omega, show ¬ k < min (j + 1) xs.length by omega, show ¬ k < min j xs.length by omega]
    have e1 : k - min (j + 1) xs.length < xs.length - (j + 1) ↔ k - min j xs.length < xs.length - j := by omega
    by_cases hh : k - min (j + 1) xs.length < xs.length - (j + 1)
    · rw [if_pos hh, if_pos (e1.1 hh)]
    · rw [if_neg hh, if_neg (fun x => hh (e1.2 x))]

/-- Where the next bids come from when the last ones are at the top. -/
def NextIs (xs : List Int) (top : Int) (j : Nat) : Prop := nextF xs top = (nextF (xs.take j) top).map (· ++ List.replicate (xs.length - j) 0)
theorem NextIs.start (xs : List Int) (top : Int) : NextIs xs top xs.length := by unfold NextIs; simp
theorem NextIs.up {xs : List Int} {top x : Int} {j : Nat} (h : NextIs xs top (j + 1)) (hx : xs[j]? = some x) (hlt : x < top) : nextF xs top = some ((tailed xs (j + 1)).set j (x + 1)) := by
  have hj := (List.getElem?_eq_some_iff.1 hx).1
  have ht : xs.take (j + 1) = xs.take j ++ [x] := by rw [List.take_add_one, hx]; rfl
  rw [h, ht, nextF_snoc, if_pos hlt]
  simp only [Option.map_some]
  congr 1
  unfold tailed
  rw [ht, List.set_append, if_pos (by simp; omega), List.set_append, if_neg (by simp; omega)]
  simp [show min j xs.length = j by omega]
theorem NextIs.down {xs : List Int} {top x : Int} {j : Nat} (h : NextIs xs top (j + 1)) (hx : xs[j]? = some x) (hge : ¬ x < top) : NextIs xs top j := by
  have hj := (List.getElem?_eq_some_iff.1 hx).1
  have ht : xs.take (j + 1) = xs.take j ++ [x] := by rw [List.take_add_one, hx]; rfl
  unfold NextIs at h ⊢
  rw [h, ht, nextF_snoc, if_neg hge]
  rw [Option.map_map]
  congr 1
  funext l
  simp only [Function.comp, List.append_assoc]
  rw [show xs.length - j = 1 + (xs.length - (j + 1)) by omega, ← List.replicate_append_replicate]
  rfl
theorem NextIs.none_ {xs : List Int} {top : Int} (h : NextIs xs top 0) : nextF xs top = none := by rw [h]; simp [nextF_nil]

/-- What next hands back. -/
def NextOut (w : World) (o : Option (List Int)) (e : Ending) (w' : World) : Prop :=
  (∃ zs g c, o = some zs ∧ e = .returned (.slice (some ⟨g, 0, none⟩) zs.length c) ∧ Own w' w.heap.size (some ⟨g, 0, none⟩) c zs ∧ Below w.heap.size w w') ∨
  (o = none ∧ e = .returned (.slice none 0 0) ∧ Below w.heap.size w w')

set_option maxHeartbeats 800000 in
theorem next_any (A : Option Addr) (c : Nat) (xs : List Int) (top : Int) (w : World) (h : Rd w A c xs) (hl : xs.length ≤ 1048576) (ht0 : 0 ≤ top) (ht1 : top ≤ 1048576) (hb : ∀ x ∈ xs, 0 ≤ x ∧ x ≤ top) :
    Calls Try.prog 137 #[.slice A xs.length c, .int .i64 top] w (NextOut w (nextF xs top)) := by
  have hl2 : xs.length ≤ 1099511627776 := by omega
  have hb0 := (Below.refl w.heap.size w).alloc (Nat.le_refl _) (.cells #[] 3)
  have h1 := h.below hb0
  have HB := Lib.hid hb
  clear hb h
  go_enter Try.func137, Try.ntmps137
  go_wp2_with (at_builtin; refine wpList_clone rfl _ _ rfl w.heap.size w.heap.size rfl (own_empty w) A c xs rfl h1 hl2 hb0.size ?_; intro g c1 w1 ho hb1)
  have B1 := hb0.trans hb1
  clear hb0 hb1 h1
  go_loopw [6] (fun i wr => ∃ j : Nat, j ≤ xs.length ∧ i = .int .i64 ((j : Int) - 1) ∧ Own wr w.heap.size (some ⟨g, 0, none⟩) c1 (tailed xs j) ∧ Below w.heap.size w wr ∧ Hid (NextIs xs top j))
    (fun i _ => (intOf i + 1).toNat)
  case atStart => exact ⟨xs.length, Nat.le_refl _, rfl, by rw [tailed_all]; exact ho, B1, Lib.hid (NextIs.start xs top)⟩
  case round =>
    obtain ⟨j, hj, rfl, hor, hbr, HN⟩ := hrel
    cases j with
    | zero =>
      have HE := Lib.hid HN.out.none_
      go_wp2
      go_ret
      exact .inr ⟨HE.out, rfl, hbr⟩
    | succ j =>
      have hjl : j < xs.length := by omega
      have e1 : (((j + 1 : Nat) : Int) - 1) = (j : Int) := by omega
      rw [e1]
      obtain ⟨x, hx⟩ := at_some hjl
      have hxb := HB.out x (List.mem_of_getElem? hx)
      have hx0 := hxb.1
      have hx1 := hxb.2
      have hc := hor.cell (tailed_at hx)
      have hf := hor.free j
      by_cases hlt : x < top
      · have HE := Lib.hid (HN.out.up hx hlt)
        have HS := Lib.hid (hor.set_ j (x + 1))
        have HL : Hid (((tailed xs (j + 1)).set j (x + 1)).length = xs.length) := Lib.hid (by rw [List.length_set, tailed_len xs (j + 1) hj])
        have HB2 := Lib.hid (hbr.setCell hor.ge (p := ⟨g, j, none⟩) (.int .i64 (x + 1)))
        clear hx hxb hor e1
        go_wp2
        go_ret
        exact .inl ⟨_, g, c1, HE.out, by rw [HL.out]; rfl, HS.out, HB2.out⟩
      · have HE := Lib.hid (HN.out.down hx hlt)
        have HS : Hid (Own (wr.setCell ⟨g, j, none⟩ (.int .i64 0)) w.heap.size (some ⟨g, 0, none⟩) c1 (tailed xs j)) := Lib.hid (by
          have := hor.set_ j 0
          rwa [tailed_zero hjl] at this)
        have HB2 := Lib.hid (hbr.setCell hor.ge (p := ⟨g, j, none⟩) (.int .i64 0))
        clear hx hxb hor e1
        go_wp2
        go_roundw
        case rel => exact ⟨j, by omega, rfl, HS.out, HB2.out, HE⟩
        case measure => simp [intOf]

end Go.Proofs.Ytpildecpabeanaa

/-
  Chapter 4, the model: the contracts of bestSplit and of BestSplit.
-/
namespace Go.Proofs.Ytpildecpabeanaa
open Go.RowKit

/-- Where a loop over all ways stands: what is done, and the best of it. -/
def BstL (ts : List (List Int)) (n : Nat) (L : List (List Int)) (l : List Int) : Prop := (L = [] ∧ l = List.replicate n 0) ∨ ∃ b, bestA (worthF ts) L = some b ∧ l = setsF b n
def StL (n : Nat) (L : List (List Int)) (ys : List Int) : Prop := DoneTo n L (some ys) ∧ Fit n 3 ys ∧ ((L = [] ∧ ys = List.replicate 3 0) ∨ (L ≠ [] ∧ leftF ys n < leftF (List.replicate 3 0) n))
theorem StL.start (n : Nat) : StL n [] (List.replicate 3 0) := ⟨DoneTo.start n, Fit.zero n 3, .inl ⟨rfl, rfl⟩⟩
theorem StL.left {n : Nat} {L : List (List Int)} {ys : List Int} (h : StL n L ys) : leftF ys n ≤ leftF (List.replicate 3 0) n := by
  rcases h.2.2 with ⟨_, h⟩ | ⟨_, h⟩
  · rw [h]; exact Nat.le_refl _
  · omega
theorem StL.next {n : Nat} {L : List (List Int)} {ys zs : List Int} (h : StL n L ys) (hn : nextF ys n = some zs) : StL n (L ++ [ys]) zs := by
  obtain ⟨hf, hl⟩ := h.2.1.next hn
  have hd := h.1.step h.2.1
  rw [hn] at hd
  have := h.left
  exact ⟨hd, hf, .inr ⟨by simp, by omega⟩⟩
theorem StL.last {n : Nat} {L : List (List Int)} {ys : List Int} (h : StL n L ys) (hn : nextF ys n = none) : DoneTo n (L ++ [ys]) none := by
  have hd := h.1.step h.2.1
  rw [hn] at hd; exact hd
theorem StL.first {n : Nat} {L : List (List Int)} {ys : List Int} (h : StL n L ys) (hL : L ≠ []) : ys ≠ [0, 0, 0] := by
  rcases h.2.2 with ⟨h1, _⟩ | ⟨_, h2⟩
  · exact absurd h1 hL
  · intro e; rw [e] at h2; exact Nat.lt_irrefl _ h2
theorem bst_first {ts : List (List Int)} {n : Nat} (ys : List Int) : BstL ts n ([] ++ [ys]) (setsF ys n) := .inr ⟨ys, rfl, rfl⟩
theorem bst_more {ts : List (List Int)} {n : Nat} {L : List (List Int)} {b ys : List Int} (h : bestA (worthF ts) L = some b) (hlt : worthF ts b < worthF ts ys) : BstL ts n (L ++ [ys]) (setsF ys n) :=
  .inr ⟨ys, by rw [bestA_snoc, h]; simp [pick, hlt], rfl⟩
theorem bst_less {ts : List (List Int)} {n : Nat} {L : List (List Int)} {b ys : List Int} (h : bestA (worthF ts) L = some b) (hlt : ¬ worthF ts b < worthF ts ys) : BstL ts n (L ++ [ys]) (setsF b n) :=
  .inr ⟨b, by rw [bestA_snoc, h]; simp [pick, hlt], rfl⟩
theorem bst_end {ts : List (List Int)} {L : List (List Int)} {l : List Int} (h : BstL ts ts.length L l) (hd : DoneTo ts.length L none) : l = setsF (wayF ts) ts.length := by
  have hd : allF (ts.length : Int) (List.replicate 3 0) = L := hd
  rcases h with ⟨h1, _⟩ | ⟨b, h1, h2⟩
  · exact absurd (hd.trans h1) (allF_ne ts.length)
  · have := wayF_is ts
    rw [hd, h1] at this
    injection this with this
    rw [h2, this]

theorem calls_q3 {P : Program} {f : FuncId} {args : Array Value} {w : World} {n : Nat} {v : Value} (h : Calls P f args (w.drewN n) fun e w' => e = .returned v ∧ ∃ k, w' = (w.drewN n).drewN k) :
    Calls P f args (w.drewN n) fun e w'' => e = .returned v ∧ ∃ k, w'' = w.drewN k := h.mono fun _ _ ⟨he, k, hw⟩ => ⟨he, n + k, by rw [hw]; simp⟩
theorem next_n {m : Nat} (A : Option Addr) (c : Nat) (xs : List Int) (top : Int) (w : World) (hm : xs.length = m) (h : Rd w A c xs) (hl : m ≤ 1048576) (ht0 : 0 ≤ top) (ht1 : top ≤ 1048576) (hb : ∀ x ∈ xs, 0 ≤ x ∧ x ≤ top) :
    Calls Try.prog 137 #[.slice A m c, .int .i64 top] w (NextOut w (nextF xs top)) := by
  subst hm; exact next_any A c xs top w h hl ht0 ht1 hb
theorem left3_own {w : World} {B g c : Nat} {zs : List Int} {top : Int} (h : Own w B (some ⟨g, 0, none⟩) c zs) (h1 : zs.length = 3) : roundsLeft top w (.slice (some ⟨g, 0, none⟩) 3 c) = leftF zs top + 1 := by
  rw [← h1]; exact roundsLeft_own h (by omega)

set_option maxRecDepth 100000 in
set_option maxHeartbeats 8000000 in
theorem SbestSplit_any (A : Option Addr) (cA n : Nat) (ts : List (List Int)) (w : World) (h : RdR w A cA ts) (hv : VTs ts) (hn : ts.length = n) :
    Calls Try.prog 83 #[.slice A n cA] w (SetsIs w (wayF ts) n) := by
  have hn1 : 1 ≤ n := by have := hv.1; omega
  have hn4 : n ≤ 4 := by have := hv.1; omega
  have HEND := Lib.hid (fun (L : List (List Int)) (l : List Int) (h : BstL ts n L l) (hd : DoneTo n L none) => show l = setsF (wayF ts) n from by subst hn; exact bst_end h hd)
  have HSUM := Lib.hid (fun (B : Option Addr) (d : Nat) (os : List Int) (w : World) (h : RdR w A cA ts) (h2 : Rd w B d (setsF os n)) => SsumSets_any A B cA d n ts os w h hv.2 h2 hn hn4)
  clear hn hv
  go_enter Try.func83, Try.ntmps83
  go_wp2_with (first
    | (at_make; refine wpList_make_ints rfl _ _ rfl w.heap.size n rfl rfl (by omega) (Nat.le_refl _) ?_; intro w0 o0 b0)
    | (at_make; refine wpList_make_ints rfl _ _ rfl w0.heap.size 3 rfl rfl (by omega) (Nat.le_refl _) ?_; intro w1 o1 b1))
  have BB0 : Below w.heap.size w w1 := b0.trans (b1.mono b0.size)
  have OB0 : Hid (Own w1 w.heap.size (some ⟨w.heap.size, 0, none⟩) n (List.replicate n 0)) := Lib.hid (o0.below b1)
  have OY0 : Hid (Own w1 w.heap.size (some ⟨w0.heap.size, 0, none⟩) 3 (List.replicate 3 0)) := Lib.hid (o1.base b0.size)
  clear o0 o1 b0 b1
  go_loopw [4, 5] (fun bs ow wr => ∃ (L : List (List Int)) (l : List Int) (gB cB : Nat), bs = .slice (some ⟨gB, 0, none⟩) n cB ∧ Hid (Own wr w.heap.size (some ⟨gB, 0, none⟩) cB l) ∧ Hid (BstL ts n L l) ∧ Below w.heap.size w wr ∧
      ((∃ g c ys, ow = .slice (some ⟨g, 0, none⟩) 3 c ∧ Hid (Own wr w.heap.size (some ⟨g, 0, none⟩) c ys) ∧ Hid (StL n L ys)) ∨ (ow = .slice none 0 0 ∧ Hid (DoneTo n L none))))
    (fun _ ow wr => roundsLeft n wr ow)
  case atStart => exact ⟨[], List.replicate n 0, _, _, rfl, OB0, Lib.hid (.inl ⟨rfl, rfl⟩), BB0, .inl ⟨_, _, List.replicate 3 0, rfl, OY0, Lib.hid (StL.start n)⟩⟩
  case round =>
    clear OB0 OY0 BB0
    obtain ⟨L, l, gB, cB, rfl, HOB, HBL, hb, ⟨g, c, ys, rfl, HOY, HST⟩ | ⟨rfl, HD⟩⟩ := hrel
    · obtain ⟨y0, y1, y2, rfl⟩ : ∃ a b d, ys = [a, b, d] := by
        have := HST.out.2.1.1
        match ys, this with
        | [a, b, d], _ => exact ⟨a, b, d, rfl⟩
      have HL := Lib.hid (left3_own (top := (n : Int)) HOY.out rfl)
      have HF := Lib.hid HST.out.2.1
      have HFB := Lib.hid HF.out.2
      have HSO := Lib.hid (SsetsOf_any (some ⟨g, 0, none⟩) c n [y0, y1, y2] wr HOY.out.rd HF.out hn1 hn4)
      have hr1 := h.below hb
      go_wp2_with fail
      refine HSO.out.mono ?_
      rintro e w2 ⟨g2, c2, rfl, o2, b2⟩
      have HB2 : Hid (Below w.heap.size w w2) := Lib.hid (hb.trans (b2.mono hb.size))
      have HO2 := Lib.hid (o2.base hb.size)
      have HOY2 := Lib.hid (HOY.out.below b2)
      have HOB2 := Lib.hid (HOB.out.below b2)
      have hc0 := HOY2.out.cell (i := 0) (x := y0) rfl
      have hc1 := HOY2.out.cell (i := 1) (x := y1) rfl
      have hc2 := HOY2.out.cell (i := 2) (x := y2) rfl
      have hr2 := hr1.below b2
      clear HOY HOB b2 o2 HSO hr1
      have HOY := HOY2
      clear HOY2
      rcases HBL.out with ⟨hL, hl⟩ | ⟨b, hbest, hl⟩
      · subst hL
        rcases HST.out.2.2 with ⟨_, hy⟩ | ⟨hne, _⟩
        · obtain ⟨rfl, rfl, rfl⟩ : y0 = 0 ∧ y1 = 0 ∧ y2 = 0 := by
            simp [List.replicate] at hy; exact hy
          have HBN := Lib.hid (bst_first (ts := ts) (n := n) [0, 0, 0])
          clear hl hy HBL HOB2
          go_wp2_with fail
          refine (next_n (m := 3) (some ⟨g, 0, none⟩) c [0, 0, 0] n _ rfl (HOY.out).rd (by omega) (by omega) (by omega) HFB.out).mono ?_
          rintro e w3 (⟨zs, g3, c3, HN, rfl, o3, b3⟩ | ⟨HN, rfl, b3⟩)
          · have HS3 := Lib.hid (HST.out.next HN)
            have hz3 := HS3.out.2.1.1
            have HL3 := Lib.hid (HF.out.next HN).2
            have B3 := HB2.out.trans (b3.mono HB2.out.size)
            have O3 := Lib.hid (o3.base HB2.out.size)
            have OB := Lib.hid ((HO2.out).below b3)
            clear HN o3 b3
            rw [hz3]
            go_wp2
            go_roundw
            case rel => exact ⟨[] ++ [[0, 0, 0]], _, _, _, rfl, OB, HBN, B3, .inl ⟨g3, c3, zs, rfl, O3, HS3⟩⟩
            case measure => rw [HL.out, left3_own O3.out hz3]; have := HL3.out; omega
          · have HS3 := Lib.hid (HST.out.last HN)
            have B3 := HB2.out.trans (b3.mono HB2.out.size)
            have OB := Lib.hid ((HO2.out).below b3)
            clear HN b3
            go_wp2
            go_roundw
            case rel => exact ⟨[] ++ [[0, 0, 0]], _, _, _, rfl, OB, HBN, B3, .inr ⟨rfl, HS3⟩⟩
            case measure => rw [HL.out, roundsLeft_nil]; omega
        · exact absurd rfl hne
      · have hLne : L ≠ [] := by intro e; rw [e] at hbest; cases hbest
        have hyn := HST.out.first hLne
        subst hl
        have HW1 := Lib.hid (HSUM.out (some ⟨g2, 0, none⟩) c2 [y0, y1, y2] w2 hr2 HO2.out.rd)
        have HW2 := Lib.hid (fun (m : Nat) => HSUM.out (some ⟨gB, 0, none⟩) cB b (w2.drewN m) (hr2.drewN m) (HOB2.out.rd.drewN m))
        have HYES := Lib.hid (fun (hlt : worthF ts b < worthF ts [y0, y1, y2]) => bst_more (n := n) hbest hlt)
        have HNOT := Lib.hid (fun (hlt : ¬ worthF ts b < worthF ts [y0, y1, y2]) => bst_less (n := n) hbest hlt)
        obtain ⟨p, hp⟩ : ∃ p, p = worthF ts [y0, y1, y2] := ⟨_, rfl⟩
        obtain ⟨q, hq⟩ : ∃ q, q = worthF ts b := ⟨_, rfl⟩
        rw [← hp] at HW1 HYES HNOT
        rw [← hq] at HW2 HYES HNOT
        clear hp hq hbest HBL hLne hr2
        by_cases h0 : y0 = 0
        · subst h0
          by_cases h1 : y1 = 0
          · subst h1
            have h2 : ¬ y2 = 0 := fun e => hyn (by rw [e])
            have dy2 : (y2 == 0) = false := by simp; omega
            have ey2 : decide (y2 = 0) = false := by simp; omega
            clear hyn
            by_cases hpq : q < p
            · have HBN := Lib.hid (HYES.out hpq)
              clear HYES HNOT HOB2
              go_wp2_with (first | (go_at_call_of 125 (Value.slice (some ⟨g2, 0, none⟩) n c2); refine HW1.out.mono ?_; rintro e w4 ⟨rfl, m4, rfl⟩) | (go_at_call_of 125 (Value.slice (some ⟨gB, 0, none⟩) n cB); refine (HW2.out _).mono ?_; rintro e w5 ⟨rfl, m5, rfl⟩))
              go_wp2_with fail
              refine (next_n (m := 3) (some ⟨g, 0, none⟩) c [0, 0, y2] n _ rfl (HOY.out.drewN _).rd (by omega) (by omega) (by omega) HFB.out).mono ?_
              rintro e w3 (⟨zs, g3, c3, HN, rfl, o3, b3⟩ | ⟨HN, rfl, b3⟩)
              · have HS3 := Lib.hid (HST.out.next HN)
                have hz3 := HS3.out.2.1.1
                have HL3 := Lib.hid (HF.out.next HN).2
                have B3 := (below_drewN' HB2.out _).trans (b3.mono (below_drewN' HB2.out _).size)
                have O3 := Lib.hid (o3.base (below_drewN' HB2.out _).size)
                have OB := Lib.hid ((HO2.out.drewN _).below b3)
                clear HN o3 b3
                rw [hz3]
                go_wp2
                go_roundw
                case rel => exact ⟨L ++ [[0, 0, y2]], _, _, _, rfl, OB, HBN, B3, .inl ⟨g3, c3, zs, rfl, O3, HS3⟩⟩
                case measure => rw [HL.out, left3_own O3.out hz3]; have := HL3.out; omega
              · have HS3 := Lib.hid (HST.out.last HN)
                have B3 := (below_drewN' HB2.out _).trans (b3.mono (below_drewN' HB2.out _).size)
                have OB := Lib.hid ((HO2.out.drewN _).below b3)
                clear HN b3
                go_wp2
                go_roundw
                case rel => exact ⟨L ++ [[0, 0, y2]], _, _, _, rfl, OB, HBN, B3, .inr ⟨rfl, HS3⟩⟩
                case measure => rw [HL.out, roundsLeft_nil]; omega
            · have HBN := Lib.hid (HNOT.out hpq)
              clear HYES HNOT HO2
              go_wp2_with (first | (go_at_call_of 125 (Value.slice (some ⟨g2, 0, none⟩) n c2); refine HW1.out.mono ?_; rintro e w4 ⟨rfl, m4, rfl⟩) | (go_at_call_of 125 (Value.slice (some ⟨gB, 0, none⟩) n cB); refine (HW2.out _).mono ?_; rintro e w5 ⟨rfl, m5, rfl⟩))
              go_wp2_with fail
              refine (next_n (m := 3) (some ⟨g, 0, none⟩) c [0, 0, y2] n _ rfl (HOY.out.drewN _).rd (by omega) (by omega) (by omega) HFB.out).mono ?_
              rintro e w3 (⟨zs, g3, c3, HN, rfl, o3, b3⟩ | ⟨HN, rfl, b3⟩)
              · have HS3 := Lib.hid (HST.out.next HN)
                have hz3 := HS3.out.2.1.1
                have HL3 := Lib.hid (HF.out.next HN).2
                have B3 := (below_drewN' HB2.out _).trans (b3.mono (below_drewN' HB2.out _).size)
                have O3 := Lib.hid (o3.base (below_drewN' HB2.out _).size)
                have OB := Lib.hid ((HOB2.out.drewN _).below b3)
                clear HN o3 b3
                rw [hz3]
                go_wp2
                go_roundw
                case rel => exact ⟨L ++ [[0, 0, y2]], _, _, _, rfl, OB, HBN, B3, .inl ⟨g3, c3, zs, rfl, O3, HS3⟩⟩
                case measure => rw [HL.out, left3_own O3.out hz3]; have := HL3.out; omega
              · have HS3 := Lib.hid (HST.out.last HN)
                have B3 := (below_drewN' HB2.out _).trans (b3.mono (below_drewN' HB2.out _).size)
                have OB := Lib.hid ((HOB2.out.drewN _).below b3)
                clear HN b3
                go_wp2
                go_roundw
                case rel => exact ⟨L ++ [[0, 0, y2]], _, _, _, rfl, OB, HBN, B3, .inr ⟨rfl, HS3⟩⟩
                case measure => rw [HL.out, roundsLeft_nil]; omega
          · have dy1 : (y1 == 0) = false := by simp; omega
            have ey1 : decide (y1 = 0) = false := by simp; omega
            clear hyn
            by_cases hpq : q < p
            · have HBN := Lib.hid (HYES.out hpq)
              clear HYES HNOT HOB2
              go_wp2_with (first | (go_at_call_of 125 (Value.slice (some ⟨g2, 0, none⟩) n c2); refine HW1.out.mono ?_; rintro e w4 ⟨rfl, m4, rfl⟩) | (go_at_call_of 125 (Value.slice (some ⟨gB, 0, none⟩) n cB); refine (HW2.out _).mono ?_; rintro e w5 ⟨rfl, m5, rfl⟩))
              go_wp2_with fail
              refine (next_n (m := 3) (some ⟨g, 0, none⟩) c [0, y1, y2] n _ rfl (HOY.out.drewN _).rd (by omega) (by omega) (by omega) HFB.out).mono ?_
              rintro e w3 (⟨zs, g3, c3, HN, rfl, o3, b3⟩ | ⟨HN, rfl, b3⟩)
              · have HS3 := Lib.hid (HST.out.next HN)
                have hz3 := HS3.out.2.1.1
                have HL3 := Lib.hid (HF.out.next HN).2
                have B3 := (below_drewN' HB2.out _).trans (b3.mono (below_drewN' HB2.out _).size)
                have O3 := Lib.hid (o3.base (below_drewN' HB2.out _).size)
                have OB := Lib.hid ((HO2.out.drewN _).below b3)
                clear HN o3 b3
                rw [hz3]
                go_wp2
                go_roundw
                case rel => exact ⟨L ++ [[0, y1, y2]], _, _, _, rfl, OB, HBN, B3, .inl ⟨g3, c3, zs, rfl, O3, HS3⟩⟩
                case measure => rw [HL.out, left3_own O3.out hz3]; have := HL3.out; omega
              · have HS3 := Lib.hid (HST.out.last HN)
                have B3 := (below_drewN' HB2.out _).trans (b3.mono (below_drewN' HB2.out _).size)
                have OB := Lib.hid ((HO2.out.drewN _).below b3)
                clear HN b3
                go_wp2
                go_roundw
                case rel => exact ⟨L ++ [[0, y1, y2]], _, _, _, rfl, OB, HBN, B3, .inr ⟨rfl, HS3⟩⟩
                case measure => rw [HL.out, roundsLeft_nil]; omega
            · have HBN := Lib.hid (HNOT.out hpq)
              clear HYES HNOT HO2
              go_wp2_with (first | (go_at_call_of 125 (Value.slice (some ⟨g2, 0, none⟩) n c2); refine HW1.out.mono ?_; rintro e w4 ⟨rfl, m4, rfl⟩) | (go_at_call_of 125 (Value.slice (some ⟨gB, 0, none⟩) n cB); refine (HW2.out _).mono ?_; rintro e w5 ⟨rfl, m5, rfl⟩))
              go_wp2_with fail
              refine (next_n (m := 3) (some ⟨g, 0, none⟩) c [0, y1, y2] n _ rfl (HOY.out.drewN _).rd (by omega) (by omega) (by omega) HFB.out).mono ?_
              rintro e w3 (⟨zs, g3, c3, HN, rfl, o3, b3⟩ | ⟨HN, rfl, b3⟩)
              · have HS3 := Lib.hid (HST.out.next HN)
                have hz3 := HS3.out.2.1.1
                have HL3 := Lib.hid (HF.out.next HN).2
                have B3 := (below_drewN' HB2.out _).trans (b3.mono (below_drewN' HB2.out _).size)
                have O3 := Lib.hid (o3.base (below_drewN' HB2.out _).size)
                have OB := Lib.hid ((HOB2.out.drewN _).below b3)
                clear HN o3 b3
                rw [hz3]
                go_wp2
                go_roundw
                case rel => exact ⟨L ++ [[0, y1, y2]], _, _, _, rfl, OB, HBN, B3, .inl ⟨g3, c3, zs, rfl, O3, HS3⟩⟩
                case measure => rw [HL.out, left3_own O3.out hz3]; have := HL3.out; omega
              · have HS3 := Lib.hid (HST.out.last HN)
                have B3 := (below_drewN' HB2.out _).trans (b3.mono (below_drewN' HB2.out _).size)
                have OB := Lib.hid ((HOB2.out.drewN _).below b3)
                clear HN b3
                go_wp2
                go_roundw
                case rel => exact ⟨L ++ [[0, y1, y2]], _, _, _, rfl, OB, HBN, B3, .inr ⟨rfl, HS3⟩⟩
                case measure => rw [HL.out, roundsLeft_nil]; omega
        · have dy0 : (y0 == 0) = false := by simp; omega
          have ey0 : decide (y0 = 0) = false := by simp; omega
          clear hyn
          by_cases hpq : q < p
          · have HBN := Lib.hid (HYES.out hpq)
            clear HYES HNOT HOB2
            go_wp2_with (first | (go_at_call_of 125 (Value.slice (some ⟨g2, 0, none⟩) n c2); refine HW1.out.mono ?_; rintro e w4 ⟨rfl, m4, rfl⟩) | (go_at_call_of 125 (Value.slice (some ⟨gB, 0, none⟩) n cB); refine (HW2.out _).mono ?_; rintro e w5 ⟨rfl, m5, rfl⟩))
            go_wp2_with fail
            refine (next_n (m := 3) (some ⟨g, 0, none⟩) c [y0, y1, y2] n _ rfl (HOY.out.drewN _).rd (by omega) (by omega) (by omega) HFB.out).mono ?_
            rintro e w3 (⟨zs, g3, c3, HN, rfl, o3, b3⟩ | ⟨HN, rfl, b3⟩)
            · have HS3 := Lib.hid (HST.out.next HN)
              have hz3 := HS3.out.2.1.1
              have HL3 := Lib.hid (HF.out.next HN).2
              have B3 := (below_drewN' HB2.out _).trans (b3.mono (below_drewN' HB2.out _).size)
              have O3 := Lib.hid (o3.base (below_drewN' HB2.out _).size)
              have OB := Lib.hid ((HO2.out.drewN _).below b3)
              clear HN o3 b3
              rw [hz3]
              go_wp2
              go_roundw
              case rel => exact ⟨L ++ [[y0, y1, y2]], _, _, _, rfl, OB, HBN, B3, .inl ⟨g3, c3, zs, rfl, O3, HS3⟩⟩
              case measure => rw [HL.out, left3_own O3.out hz3]; have := HL3.out; omega
            · have HS3 := Lib.hid (HST.out.last HN)
              have B3 := (below_drewN' HB2.out _).trans (b3.mono (below_drewN' HB2.out _).size)
              have OB := Lib.hid ((HO2.out.drewN _).below b3)
              clear HN b3
              go_wp2
              go_roundw
              case rel => exact ⟨L ++ [[y0, y1, y2]], _, _, _, rfl, OB, HBN, B3, .inr ⟨rfl, HS3⟩⟩
              case measure => rw [HL.out, roundsLeft_nil]; omega
          · have HBN := Lib.hid (HNOT.out hpq)
            clear HYES HNOT HO2
            go_wp2_with (first | (go_at_call_of 125 (Value.slice (some ⟨g2, 0, none⟩) n c2); refine HW1.out.mono ?_; rintro e w4 ⟨rfl, m4, rfl⟩) | (go_at_call_of 125 (Value.slice (some ⟨gB, 0, none⟩) n cB); refine (HW2.out _).mono ?_; rintro e w5 ⟨rfl, m5, rfl⟩))
            go_wp2_with fail
            refine (next_n (m := 3) (some ⟨g, 0, none⟩) c [y0, y1, y2] n _ rfl (HOY.out.drewN _).rd (by omega) (by omega) (by omega) HFB.out).mono ?_
            rintro e w3 (⟨zs, g3, c3, HN, rfl, o3, b3⟩ | ⟨HN, rfl, b3⟩)
            · have HS3 := Lib.hid (HST.out.next HN)
              have hz3 := HS3.out.2.1.1
              have HL3 := Lib.hid (HF.out.next HN).2
              have B3 := (below_drewN' HB2.out _).trans (b3.mono (below_drewN' HB2.out _).size)
              have O3 := Lib.hid (o3.base (below_drewN' HB2.out _).size)
              have OB := Lib.hid ((HOB2.out.drewN _).below b3)
              clear HN o3 b3
              rw [hz3]
              go_wp2
              go_roundw
              case rel => exact ⟨L ++ [[y0, y1, y2]], _, _, _, rfl, OB, HBN, B3, .inl ⟨g3, c3, zs, rfl, O3, HS3⟩⟩
              case measure => rw [HL.out, left3_own O3.out hz3]; have := HL3.out; omega
            · have HS3 := Lib.hid (HST.out.last HN)
              have B3 := (below_drewN' HB2.out _).trans (b3.mono (below_drewN' HB2.out _).size)
              have OB := Lib.hid ((HOB2.out.drewN _).below b3)
              clear HN b3
              go_wp2
              go_roundw
              case rel => exact ⟨L ++ [[y0, y1, y2]], _, _, _, rfl, OB, HBN, B3, .inr ⟨rfl, HS3⟩⟩
              case measure => rw [HL.out, roundsLeft_nil]; omega
    · have hl := HEND.out L l HBL.out HD.out
      subst hl
      go_wp2
      go_ret
      exact ⟨gB, cB, rfl, HOB.out, hb⟩

end Go.Proofs.Ytpildecpabeanaa

/-
  Chapter 5, the model: the contracts of all, others, pivot, PivotPays, AddsOf.
-/
namespace Go.Proofs.Ytpildecpabeanaa
open Go.RowKit

theorem Sall_any (w : World) : Calls Try.prog 128 #[] w fun e w' => e = .returned (.int .i64 7) ∧ w = w' := by
  go_enter Try.func128, Try.ntmps128
  go_wp2_with fail
  refine (Spower_any 3 (by omega) w).mono ?_
  rintro e w1 ⟨rfl, rfl⟩
  go_wp2
  go_ret
  exact ⟨rfl, rfl⟩

set_option maxHeartbeats 1000000 in
theorem Sothers_any (b off c i n : Nat) (ts : List (List Int)) (w : World) (hn : ts.length = n) (hR : RdR w (some ⟨b, off, none⟩) c ts) (hi : i < n) (hl : n ≤ 1000) :
    Calls Try.prog 127 #[.slice (some ⟨b, off, none⟩) n c, .int .i64 i] w (CopyIs w (ts.eraseIdx i) (n - 1)) := by
  obtain ⟨vs, hvs, hcell⟩ := hR.vals
  have hb0 : Below w.heap.size w (w.drew.alloc (.cells #[] 23)) := (below_drewN' (Below.refl w.heap.size w) 1).alloc (Nat.le_refl _) (.cells #[] 23)
  have hvl : vs.length = n := by rw [hvs.1, hn]
  have hc : n ≤ c := by rw [← hn]; exact hR.1
  have HV := Lib.hid hvs
  have HC := Lib.hid (fun (w1 : World) (hb : Below w.heap.size w w1) (k : Nat) (v : Value) (h : vs[k]? = some v) => (hb.cell (p := ⟨b, off + k, none⟩) (World.block_lt_of_cell? w _ (hcell k v h))).trans (hcell k v h))
  have hone := hvs.oneCell
  have HO := Lib.hid hone
  have ho := row_empty w.drew
  have hwi : IntKind.i64.wrap ((i : Int) + 1) = ((i + 1 : Nat) : Int) := IntWalk.i64_in _ (by omega)
  have hi1 : i + 1 ≤ n := hi
  have hic : i ≤ c := by omega
  have hi1c : i + 1 ≤ c := by omega
  clear hR hvs hcell hone
  have hadd : ∀ o j, (⟨b, o, none⟩ : Addr).add j = ⟨b, o + j, none⟩ := fun o j => by unfold Addr.add; split <;> simp_all
  have HAD := Lib.hid hadd
  have hb1 : Below w.heap.size w (w.alloc (.cells #[] 23)).drew := below_drewN' ((Below.refl w.heap.size w).alloc (Nat.le_refl _) (.cells #[] 23)) 1
  have HO1 : Hid ((w.alloc (.cells #[] 23)).drew.ownsRow w.heap.size 23 1 (.slice (some ⟨w.heap.size, 0, none⟩) 0 0) 0 []) := Lib.hid (row_empty w)
  have HN1 : Hid (∀ (W : World), Below w.heap.size w W → ∀ j u, (vs.take i)[j]? = some u → W.cell? ((⟨b, off, none⟩ : Addr).add j) = some u) := Lib.hid (fun W hW j u hu => by
    rw [HAD.out]; refine HC.out W hW j u ?_
    rw [List.getElem?_take] at hu; split at hu
    · exact hu
    · cases hu)
  have HN2 : Hid (∀ (W : World), Below w.heap.size w W → ∀ j u, (vs.drop (i + 1))[j]? = some u → W.cell? ((⟨b, off + (i + 1), none⟩ : Addr).add j) = some u) := Lib.hid (fun W hW j u hu => by
    rw [HAD.out, Nat.add_assoc]; refine HC.out W hW _ u ?_
    rw [List.getElem?_drop] at hu
    exact hu)
  have HTL : Hid ((vs.take i).length = i) := Lib.hid (by rw [List.length_take]; omega)
  have HDL : Hid ((vs.drop (i + 1)).length = n - (i + 1)) := Lib.hid (by rw [List.length_drop]; omega)
  have HT1 : Hid (∀ u ∈ vs.take i, u.oneCell' = true) := Lib.hid (fun u hu => HO.out u (List.mem_of_mem_take hu))
  have HT2 : Hid (∀ u ∈ vs.drop (i + 1), u.oneCell' = true) := Lib.hid (fun u hu => HO.out u (List.mem_of_mem_drop hu))
  have HEC : Hid (vs.take i ++ vs.drop (i + 1) = vs.eraseIdx i) := Lib.hid (erase_cut vs i)
  clear hadd
  by_cases hci : c = i + 1
  · subst hci
    obtain rfl : n = i + 1 := by omega
    have HT3 : Hid (vs.take i = vs.eraseIdx i) := Lib.hid (by
      rw [← HEC.out, List.drop_eq_nil_of_le (by omega), List.append_nil])
    have hi0 : i + 1 - (i + 1) = 0 := by omega
    have q1 : (i : Int) ≤ (i : Int) + 1 := by omega
    have q2 : (0 : Int) ≤ (i : Int) + 1 := by omega
    clear HN2 HDL HT2 HEC
    go_enter Try.func127, Try.ntmps127
    go_wp2_with fail
    go_region_law (first
      | (refine step_append_rows rfl _ _ rfl w.heap.size w.heap.size 0 0 [] rfl HO1.out ⟨b, off, none⟩ _ i (vs.take i) rfl HTL.out (HN1.out _ hb1) HT1.out i (by omega) (by omega) hb1.size ?_; intro g2 c2 w2 o2 g2'; have B2 : Below w.heap.size w w2 := hb1.grown g2' hb1.size (fun k e => by cases e; exact Nat.le_refl _); rw [List.nil_append] at o2)
      | (refine step_append_rows rfl _ _ rfl w.heap.size g2 c2 i (vs.take i) rfl o2 ⟨b, off, none⟩ _ 0 [] rfl rfl (fun j u hu => by simp at hu) (fun u hu => by simp at hu) i (by omega) (by omega) B2.size ?_; intro g3 c3 w3 o3 g3'; have B3 : Below w.heap.size w w3 := B2.grown g3' B2.size (fun k e => by cases e; exact (World.ownsRow.lt o2 g2 rfl).1); rw [List.append_nil, HT3.out] at o3))
    go_wp2
    go_ret
    exact ⟨g3, c3, vs.eraseIdx i, rfl, o3, HV.out.erase i, B3⟩
  · have q2 : (0 : Int) ≤ (i : Int) + 1 := by omega
    have q3 : (i : Int) + 1 ≤ (n : Int) := by omega
    go_enter Try.func127, Try.ntmps127
    go_wp2_with fail
    go_region_law (first
      | (refine step_append_rows rfl _ _ rfl w.heap.size w.heap.size 0 0 [] rfl HO1.out ⟨b, off, none⟩ _ i (vs.take i) rfl HTL.out (HN1.out _ hb1) HT1.out i (by omega) (by omega) hb1.size ?_; intro g2 c2 w2 o2 g2'; have B2 : Below w.heap.size w w2 := hb1.grown g2' hb1.size (fun k e => by cases e; exact Nat.le_refl _); rw [List.nil_append] at o2)
      | (refine step_append_rows rfl _ _ rfl w.heap.size g2 c2 i (vs.take i) rfl o2 ⟨b, off + (i + 1), none⟩ _ (n - (i + 1)) (vs.drop (i + 1)) rfl HDL.out (HN2.out _ B2) HT2.out (n - 1) (by omega) (by omega) B2.size ?_; intro g3 c3 w3 o3 g3'; have B3 : Below w.heap.size w w3 := B2.grown g3' B2.size (fun k e => by cases e; exact (World.ownsRow.lt o2 g2 rfl).1); rw [HEC.out] at o3))
    go_wp2
    go_ret
    exact ⟨g3, c3, vs.eraseIdx i, rfl, o3, HV.out.erase i, B3⟩

end Go.Proofs.Ytpildecpabeanaa
