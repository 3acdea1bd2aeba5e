/-
  Chapter 4, the model: the contracts of bestSplit and of BestSplit.
-/
import Derived.Test.YtpildecpabeanaaG16
namespace Go.Proofs.Ytpildecpabeanaa
open Go.RowKit

/-- Where a loop over all ways stands: what is done, and the best of it. -/
def BstL (ts : List (List Int)) (n : Nat) (L : List (List Int)) (l : List Int) : Prop := (L = [] ∧ l = List.replicate n 0) ∨ ∃ b, bestA (worthF ts) L = some b ∧ l = setsF b n
def StL (n : Nat) (L : List (List Int)) (ys : List Int) : Prop := DoneTo n L (some ys) ∧ Fit n 3 ys ∧ ((L = [] ∧ ys = List.replicate 3 0) ∨ (L ≠ [] ∧ leftF ys n < leftF (List.replicate 3 0) n))
theorem StL.start (n : Nat) : StL n [] (List.replicate 3 0) := ⟨DoneTo.start n, Fit.zero n 3, .inl ⟨rfl, rfl⟩⟩
theorem StL.left {n : Nat} {L : List (List Int)} {ys : List Int} (h : StL n L ys) : leftF ys n ≤ leftF (List.replicate 3 0) n := by
  rcases h.2.2 with ⟨_, h⟩ | ⟨_, h⟩
  · rw [h]; exact Nat.le_refl _
  · omega
theorem StL.next {n : Nat} {L : List (List Int)} {ys zs : List Int} (h : StL n L ys) (hn : nextF ys n = some zs) : StL n (L ++ [ys]) zs := by
  obtain ⟨hf, hl⟩ := h.2.1.next hn
  have hd := h.1.step h.2.1
  rw [hn] at hd
  have := h.left
  exact ⟨hd, hf, .inr ⟨by simp, by omega⟩⟩
theorem StL.last {n : Nat} {L : List (List Int)} {ys : List Int} (h : StL n L ys) (hn : nextF ys n = none) : DoneTo n (L ++ [ys]) none := by
  have hd := h.1.step h.2.1
  rw [hn] at hd; exact hd
theorem StL.first {n : Nat} {L : List (List Int)} {ys : List Int} (h : StL n L ys) (hL : L ≠ []) : ys ≠ [0, 0, 0] := by
  rcases h.2.2 with ⟨h1, _⟩ | ⟨_, h2⟩
  · exact absurd h1 hL
  · intro e; rw [e] at h2; exact Nat.lt_irrefl _ h2
theorem bst_first {ts : List (List Int)} {n : Nat} (ys : List Int) : BstL ts n ([] ++ [ys]) (setsF ys n) := .inr ⟨ys, rfl, rfl⟩
theorem bst_more {ts : List (List Int)} {n : Nat} {L : List (List Int)} {b ys : List Int} (h : bestA (worthF ts) L = some b) (hlt : worthF ts b < worthF ts ys) : BstL ts n (L ++ [ys]) (setsF ys n) :=
  .inr ⟨ys, by rw [bestA_snoc, h]; simp [pick, hlt], rfl⟩
theorem bst_less {ts : List (List Int)} {n : Nat} {L : List (List Int)} {b ys : List Int} (h : bestA (worthF ts) L = some b) (hlt : ¬ worthF ts b < worthF ts ys) : BstL ts n (L ++ [ys]) (setsF b n) :=
  .inr ⟨b, by rw [bestA_snoc, h]; simp [pick, hlt], rfl⟩
theorem bst_end {ts : List (List Int)} {L : List (List Int)} {l : List Int} (h : BstL ts ts.length L l) (hd : DoneTo ts.length L none) : l = setsF (wayF ts) ts.length := by
  have hd : allF (ts.length : Int) (List.replicate 3 0) = L := hd
  rcases h with ⟨h1, _⟩ | ⟨b, h1, h2⟩
  · exact absurd (hd.trans h1) (allF_ne ts.length)
  · have := wayF_is ts
    rw [hd, h1] at this
    injection this with this
    rw [h2, this]

theorem calls_q3 {P : Program} {f : FuncId} {args : Array Value} {w : World} {n : Nat} {v : Value} (h : Calls P f args (w.drewN n) fun e w' => e = .returned v ∧ ∃ k, w' = (w.drewN n).drewN k) :
    Calls P f args (w.drewN n) fun e w'' => e = .returned v ∧ ∃ k, w'' = w.drewN k := h.mono fun _ _ ⟨he, k, hw⟩ => ⟨he, n + k, by rw [hw]; simp⟩
theorem next_n {m : Nat} (A : Option Addr) (c : Nat) (xs : List Int) (top : Int) (w : World) (hm : xs.length = m) (h : Rd w A c xs) (hl : m ≤ 1048576) (ht0 : 0 ≤ top) (ht1 : top ≤ 1048576) (hb : ∀ x ∈ xs, 0 ≤ x ∧ x ≤ top) :
    Calls Try.prog 137 #[.slice A m c, .int .i64 top] w (NextOut w (nextF xs top)) := by
  subst hm; exact next_any A c xs top w h hl ht0 ht1 hb
theorem left3_own {w : World} {B g c : Nat} {zs : List Int} {top : Int} (h : Own w B (some ⟨g, 0, none⟩) c zs) (h1 : zs.length = 3) : roundsLeft top w (.slice (some ⟨g, 0, none⟩) 3 c) = leftF zs top + 1 := by
  rw [← h1]; exact roundsLeft_own h (by omega)

set_option maxRecDepth 100000 in
set_option maxHeartbeats 8000000 in
theorem SbestSplit_any (A : Option Addr) (cA n : Nat) (ts : List (List Int)) (w : World) (h : RdR w A cA ts) (hv : VTs ts) (hn : ts.length = n) :
    Calls Try.prog 83 #[.slice A n cA] w (SetsIs w (wayF ts) n) := by
  have hn1 : 1 ≤ n := by have := hv.1; omega
  have hn4 : n ≤ 4 := by have := hv.1; omega
  have HEND := Lib.hid (fun (L : List (List Int)) (l : List Int) (h : BstL ts n L l) (hd : DoneTo n L none) => show l = setsF (wayF ts) n from by subst hn; exact bst_end h hd)
  have HSUM := Lib.hid (fun (B : Option Addr) (d : Nat) (os : List Int) (w : World) (h : RdR w A cA ts) (h2 : Rd w B d (setsF os n)) => SsumSets_any A B cA d n ts os w h hv.2 h2 hn hn4)
  clear hn hv
  go_enter Try.func83, Try.ntmps83
  go_wp2_with (first
    | (at_make; refine wpList_make_ints rfl _ _ rfl w.heap.size n rfl rfl (by omega) (Nat.le_refl _) ?_; intro w0 o0 b0)
    | (at_make; refine wpList_make_ints rfl _ _ rfl w0.heap.size 3 rfl rfl (by omega) (Nat.le_refl _) ?_; intro w1 o1 b1))
  have BB0 : Below w.heap.size w w1 := b0.trans (b1.mono b0.size)
  have OB0 : Hid (Own w1 w.heap.size (some ⟨w.heap.size, 0, none⟩) n (List.replicate n 0)) := Lib.hid (o0.below b1)
  have OY0 : Hid (Own w1 w.heap.size (some ⟨w0.heap.size, 0, none⟩) 3 (List.replicate 3 0)) := Lib.hid (o1.base b0.size)
  clear o0 o1 b0 b1
  go_loopw [4, 5] (fun bs ow wr => ∃ (L : List (List Int)) (l : List Int) (gB cB : Nat), bs = .slice (some ⟨gB, 0, none⟩) n cB ∧ Hid (Own wr w.heap.size (some ⟨gB, 0, none⟩) cB l) ∧ Hid (BstL ts n L l) ∧ Below w.heap.size w wr ∧
      ((∃ g c ys, ow = .slice (some ⟨g, 0, none⟩) 3 c ∧ Hid (Own wr w.heap.size (some ⟨g, 0, none⟩) c ys) ∧ Hid (StL n L ys)) ∨ (ow = .slice none 0 0 ∧ Hid (DoneTo n L none))))
    (fun _ ow wr => roundsLeft n wr ow)
  case atStart => exact ⟨[], List.replicate n 0, _, _, rfl, OB0, Lib.hid (.inl ⟨rfl, rfl⟩), BB0, .inl ⟨_, _, List.replicate 3 0, rfl, OY0, Lib.hid (StL.start n)⟩⟩
  case round =>
    clear OB0 OY0 BB0
    obtain ⟨L, l, gB, cB, rfl, HOB, HBL, hb, ⟨g, c, ys, rfl, HOY, HST⟩ | ⟨rfl, HD⟩⟩ := hrel
    · obtain ⟨y0, y1, y2, rfl⟩ : ∃ a b d, ys = [a, b, d] := by
        have := HST.out.2.1.1
        match ys, this with
        | [a, b, d], _ => exact ⟨a, b, d, rfl⟩
      have HL := Lib.hid (left3_own (top := (n : Int)) HOY.out rfl)
      have HF := Lib.hid HST.out.2.1
      have HFB := Lib.hid HF.out.2
      have HSO := Lib.hid (SsetsOf_any (some ⟨g, 0, none⟩) c n [y0, y1, y2] wr HOY.out.rd HF.out hn1 hn4)
      have hr1 := h.below hb
      go_wp2_with fail
      refine HSO.out.mono ?_
      rintro e w2 ⟨g2, c2, rfl, o2, b2⟩
      have HB2 : Hid (Below w.heap.size w w2) := Lib.hid (hb.trans (b2.mono hb.size))
      have HO2 := Lib.hid (o2.base hb.size)
      have HOY2 := Lib.hid (HOY.out.below b2)
      have HOB2 := Lib.hid (HOB.out.below b2)
      have hc0 := HOY2.out.cell (i := 0) (x := y0) rfl
      have hc1 := HOY2.out.cell (i := 1) (x := y1) rfl
      have hc2 := HOY2.out.cell (i := 2) (x := y2) rfl
      have hr2 := hr1.below b2
      clear HOY HOB b2 o2 HSO hr1
      have HOY := HOY2
      clear HOY2
      rcases HBL.out with ⟨hL, hl⟩ | ⟨b, hbest, hl⟩
      · subst hL
        rcases HST.out.2.2 with ⟨_, hy⟩ | ⟨hne, _⟩
        · obtain ⟨rfl, rfl, rfl⟩ : y0 = 0 ∧ y1 = 0 ∧ y2 = 0 := by
            simp [List.replicate] at hy; exact hy
          have HBN := Lib.hid (bst_first (ts := ts) (n := n) [0, 0, 0])
          clear hl hy HBL HOB2
          go_wp2_with fail
          refine (next_n (m := 3) (some ⟨g, 0, none⟩) c [0, 0, 0] n _ rfl (HOY.out).rd (by omega) (by omega) (by omega) HFB.out).mono ?_
          rintro e w3 (⟨zs, g3, c3, HN, rfl, o3, b3⟩ | ⟨HN, rfl, b3⟩)
          · have HS3 := Lib.hid (HST.out.next HN)
            have hz3 := HS3.out.2.1.1
            have HL3 := Lib.hid (HF.out.next HN).2
            have B3 := HB2.out.trans (b3.mono HB2.out.size)
            have O3 := Lib.hid (o3.base HB2.out.size)
            have OB := Lib.hid ((HO2.out).below b3)
            clear HN o3 b3
            rw [hz3]
            go_wp2
            go_roundw
            case rel => exact ⟨[] ++ [[0, 0, 0]], _, _, _, rfl, OB, HBN, B3, .inl ⟨g3, c3, zs, rfl, O3, HS3⟩⟩
            case measure => rw [HL.out, left3_own O3.out hz3]; have := HL3.out; omega
          · have HS3 := Lib.hid (HST.out.last HN)
            have B3 := HB2.out.trans (b3.mono HB2.out.size)
            have OB := Lib.hid ((HO2.out).below b3)
            clear HN b3
            go_wp2
            go_roundw
            case rel => exact ⟨[] ++ [[0, 0, 0]], _, _, _, rfl, OB, HBN, B3, .inr ⟨rfl, HS3⟩⟩
            case measure => rw [HL.out, roundsLeft_nil]; omega
        · exact absurd rfl hne
      · have hLne : L ≠ [] := by intro e; rw [e] at hbest; cases hbest
        have hyn := HST.out.first hLne
        subst hl
        have HW1 := Lib.hid (HSUM.out (some ⟨g2, 0, none⟩) c2 [y0, y1, y2] w2 hr2 HO2.out.rd)
        have HW2 := Lib.hid (fun (m : Nat) => HSUM.out (some ⟨gB, 0, none⟩) cB b (w2.drewN m) (hr2.drewN m) (HOB2.out.rd.drewN m))
        have HYES := Lib.hid (fun (hlt : worthF ts b < worthF ts [y0, y1, y2]) => bst_more (n := n) hbest hlt)
        have HNOT := Lib.hid (fun (hlt : ¬ worthF ts b < worthF ts [y0, y1, y2]) => bst_less (n := n) hbest hlt)
        obtain ⟨p, hp⟩ : ∃ p, p = worthF ts [y0, y1, y2] := ⟨_, rfl⟩
        obtain ⟨q, hq⟩ : ∃ q, q = worthF ts b := ⟨_, rfl⟩
        rw [← hp] at HW1 HYES HNOT
        rw [← hq] at HW2 HYES HNOT
        clear hp hq hbest HBL hLne hr2
        by_cases h0 : y0 = 0
        · subst h0
          by_cases h1 : y1 = 0
          · subst h1
            have h2 : ¬ y2 = 0 := fun e => hyn (by rw [e])
            have dy2 : (y2 == 0) = false := by simp; omega
            have ey2 : decide (y2 = 0) = false := by simp; omega
            clear hyn
            by_cases hpq : q < p
            · have HBN := Lib.hid (HYES.out hpq)
              clear HYES HNOT HOB2
              go_wp2_with (first | (go_at_call_of 125 (Value.slice (some ⟨g2, 0, none⟩) n c2); refine HW1.out.mono ?_; rintro e w4 ⟨rfl, m4, rfl⟩) | (go_at_call_of 125 (Value.slice (some ⟨gB, 0, none⟩) n cB); refine (HW2.out _).mono ?_; rintro e w5 ⟨rfl, m5, rfl⟩))
              go_wp2_with fail
              refine (next_n (m := 3) (some ⟨g, 0, none⟩) c [0, 0, y2] n _ rfl (HOY.out.drewN _).rd (by omega) (by omega) (by omega) HFB.out).mono ?_
              rintro e w3 (⟨zs, g3, c3, HN, rfl, o3, b3⟩ | ⟨HN, rfl, b3⟩)
              · have HS3 := Lib.hid (HST.out.next HN)
                have hz3 := HS3.out.2.1.1
                have HL3 := Lib.hid (HF.out.next HN).2
                have B3 := (below_drewN' HB2.out _).trans (b3.mono (below_drewN' HB2.out _).size)
                have O3 := Lib.hid (o3.base (below_drewN' HB2.out _).size)
                have OB := Lib.hid ((HO2.out.drewN _).below b3)
                clear HN o3 b3
                rw [hz3]
                go_wp2
                go_roundw
                case rel => exact ⟨L ++ [[0, 0, y2]], _, _, _, rfl, OB, HBN, B3, .inl ⟨g3, c3, zs, rfl, O3, HS3⟩⟩
                case measure => rw [HL.out, left3_own O3.out hz3]; have := HL3.out; omega
              · have HS3 := Lib.hid (HST.out.last HN)
                have B3 := (below_drewN' HB2.out _).trans (b3.mono (below_drewN' HB2.out _).size)
                have OB := Lib.hid ((HO2.out.drewN _).below b3)
                clear HN b3
                go_wp2
                go_roundw
                case rel => exact ⟨L ++ [[0, 0, y2]], _, _, _, rfl, OB, HBN, B3, .inr ⟨rfl, HS3⟩⟩
                case measure => rw [HL.out, roundsLeft_nil]; omega
            · have HBN := Lib.hid (HNOT.out hpq)
              clear HYES HNOT HO2
              go_wp2_with (first | (go_at_call_of 125 (Value.slice (some ⟨g2, 0, none⟩) n c2); refine HW1.out.mono ?_; rintro e w4 ⟨rfl, m4, rfl⟩) | (go_at_call_of 125 (Value.slice (some ⟨gB, 0, none⟩) n cB); refine (HW2.out _).mono ?_; rintro e w5 ⟨rfl, m5, rfl⟩))
              go_wp2_with fail
              refine (next_n (m := 3) (some ⟨g, 0, none⟩) c [0, 0, y2] n _ rfl (HOY.out.drewN _).rd (by omega) (by omega) (by omega) HFB.out).mono ?_
              rintro e w3 (⟨zs, g3, c3, HN, rfl, o3, b3⟩ | ⟨HN, rfl, b3⟩)
              · have HS3 := Lib.hid (HST.out.next HN)
                have hz3 := HS3.out.2.1.1
                have HL3 := Lib.hid (HF.out.next HN).2
                have B3 := (below_drewN' HB2.out _).trans (b3.mono (below_drewN' HB2.out _).size)
                have O3 := Lib.hid (o3.base (below_drewN' HB2.out _).size)
                have OB := Lib.hid ((HOB2.out.drewN _).below b3)
                clear HN o3 b3
                rw [hz3]
                go_wp2
                go_roundw
                case rel => exact ⟨L ++ [[0, 0, y2]], _, _, _, rfl, OB, HBN, B3, .inl ⟨g3, c3, zs, rfl, O3, HS3⟩⟩
                case measure => rw [HL.out, left3_own O3.out hz3]; have := HL3.out; omega
              · have HS3 := Lib.hid (HST.out.last HN)
                have B3 := (below_drewN' HB2.out _).trans (b3.mono (below_drewN' HB2.out _).size)
                have OB := Lib.hid ((HOB2.out.drewN _).below b3)
                clear HN b3
                go_wp2
                go_roundw
                case rel => exact ⟨L ++ [[0, 0, y2]], _, _, _, rfl, OB, HBN, B3, .inr ⟨rfl, HS3⟩⟩
                case measure => rw [HL.out, roundsLeft_nil]; omega
          · have dy1 : (y1 == 0) = false := by simp; omega
            have ey1 : decide (y1 = 0) = false := by simp; omega
            clear hyn
            by_cases hpq : q < p
            · have HBN := Lib.hid (HYES.out hpq)
              clear HYES HNOT HOB2
              go_wp2_with (first | (go_at_call_of 125 (Value.slice (some ⟨g2, 0, none⟩) n c2); refine HW1.out.mono ?_; rintro e w4 ⟨rfl, m4, rfl⟩) | (go_at_call_of 125 (Value.slice (some ⟨gB, 0, none⟩) n cB); refine (HW2.out _).mono ?_; rintro e w5 ⟨rfl, m5, rfl⟩))
              go_wp2_with fail
              refine (next_n (m := 3) (some ⟨g, 0, none⟩) c [0, y1, y2] n _ rfl (HOY.out.drewN _).rd (by omega) (by omega) (by omega) HFB.out).mono ?_
              rintro e w3 (⟨zs, g3, c3, HN, rfl, o3, b3⟩ | ⟨HN, rfl, b3⟩)
              · have HS3 := Lib.hid (HST.out.next HN)
                have hz3 := HS3.out.2.1.1
                have HL3 := Lib.hid (HF.out.next HN).2
                have B3 := (below_drewN' HB2.out _).trans (b3.mono (below_drewN' HB2.out _).size)
                have O3 := Lib.hid (o3.base (below_drewN' HB2.out _).size)
                have OB := Lib.hid ((HO2.out.drewN _).below b3)
                clear HN o3 b3
                rw [hz3]
                go_wp2
                go_roundw
                case rel => exact ⟨L ++ [[0, y1, y2]], _, _, _, rfl, OB, HBN, B3, .inl ⟨g3, c3, zs, rfl, O3, HS3⟩⟩
                case measure => rw [HL.out, left3_own O3.out hz3]; have := HL3.out; omega
              · have HS3 := Lib.hid (HST.out.last HN)
                have B3 := (below_drewN' HB2.out _).trans (b3.mono (below_drewN' HB2.out _).size)
                have OB := Lib.hid ((HO2.out.drewN _).below b3)
                clear HN b3
                go_wp2
                go_roundw
                case rel => exact ⟨L ++ [[0, y1, y2]], _, _, _, rfl, OB, HBN, B3, .inr ⟨rfl, HS3⟩⟩
                case measure => rw [HL.out, roundsLeft_nil]; omega
            · have HBN := Lib.hid (HNOT.out hpq)
              clear HYES HNOT HO2
              go_wp2_with (first | (go_at_call_of 125 (Value.slice (some ⟨g2, 0, none⟩) n c2); refine HW1.out.mono ?_; rintro e w4 ⟨rfl, m4, rfl⟩) | (go_at_call_of 125 (Value.slice (some ⟨gB, 0, none⟩) n cB); refine (HW2.out _).mono ?_; rintro e w5 ⟨rfl, m5, rfl⟩))
              go_wp2_with fail
              refine (next_n (m := 3) (some ⟨g, 0, none⟩) c [0, y1, y2] n _ rfl (HOY.out.drewN _).rd (by omega) (by omega) (by omega) HFB.out).mono ?_
              rintro e w3 (⟨zs, g3, c3, HN, rfl, o3, b3⟩ | ⟨HN, rfl, b3⟩)
              · have HS3 := Lib.hid (HST.out.next HN)
                have hz3 := HS3.out.2.1.1
                have HL3 := Lib.hid (HF.out.next HN).2
                have B3 := (below_drewN' HB2.out _).trans (b3.mono (below_drewN' HB2.out _).size)
                have O3 := Lib.hid (o3.base (below_drewN' HB2.out _).size)
                have OB := Lib.hid ((HOB2.out.drewN _).below b3)
                clear HN o3 b3
                rw [hz3]
                go_wp2
                go_roundw
                case rel => exact ⟨L ++ [[0, y1, y2]], _, _, _, rfl, OB, HBN, B3, .inl ⟨g3, c3, zs, rfl, O3, HS3⟩⟩
                case measure => rw [HL.out, left3_own O3.out hz3]; have := HL3.out; omega
              · have HS3 := Lib.hid (HST.out.last HN)
                have B3 := (below_drewN' HB2.out _).trans (b3.mono (below_drewN' HB2.out _).size)
                have OB := Lib.hid ((HOB2.out.drewN _).below b3)
                clear HN b3
                go_wp2
                go_roundw
                case rel => exact ⟨L ++ [[0, y1, y2]], _, _, _, rfl, OB, HBN, B3, .inr ⟨rfl, HS3⟩⟩
                case measure => rw [HL.out, roundsLeft_nil]; omega
        · have dy0 : (y0 == 0) = false := by simp; omega
          have ey0 : decide (y0 = 0) = false := by simp; omega
          clear hyn
          by_cases hpq : q < p
          · have HBN := Lib.hid (HYES.out hpq)
            clear HYES HNOT HOB2
            go_wp2_with (first | (go_at_call_of 125 (Value.slice (some ⟨g2, 0, none⟩) n c2); refine HW1.out.mono ?_; rintro e w4 ⟨rfl, m4, rfl⟩) | (go_at_call_of 125 (Value.slice (some ⟨gB, 0, none⟩) n cB); refine (HW2.out _).mono ?_; rintro e w5 ⟨rfl, m5, rfl⟩))
            go_wp2_with fail
            refine (next_n (m := 3) (some ⟨g, 0, none⟩) c [y0, y1, y2] n _ rfl (HOY.out.drewN _).rd (by omega) (by omega) (by omega) HFB.out).mono ?_
            rintro e w3 (⟨zs, g3, c3, HN, rfl, o3, b3⟩ | ⟨HN, rfl, b3⟩)
            · have HS3 := Lib.hid (HST.out.next HN)
              have hz3 := HS3.out.2.1.1
              have HL3 := Lib.hid (HF.out.next HN).2
              have B3 := (below_drewN' HB2.out _).trans (b3.mono (below_drewN' HB2.out _).size)
              have O3 := Lib.hid (o3.base (below_drewN' HB2.out _).size)
              have OB := Lib.hid ((HO2.out.drewN _).below b3)
              clear HN o3 b3
              rw [hz3]
              go_wp2
              go_roundw
              case rel => exact ⟨L ++ [[y0, y1, y2]], _, _, _, rfl, OB, HBN, B3, .inl ⟨g3, c3, zs, rfl, O3, HS3⟩⟩
              case measure => rw [HL.out, left3_own O3.out hz3]; have := HL3.out; omega
            · have HS3 := Lib.hid (HST.out.last HN)
              have B3 := (below_drewN' HB2.out _).trans (b3.mono (below_drewN' HB2.out _).size)
              have OB := Lib.hid ((HO2.out.drewN _).below b3)
              clear HN b3
              go_wp2
              go_roundw
              case rel => exact ⟨L ++ [[y0, y1, y2]], _, _, _, rfl, OB, HBN, B3, .inr ⟨rfl, HS3⟩⟩
              case measure => rw [HL.out, roundsLeft_nil]; omega
          · have HBN := Lib.hid (HNOT.out hpq)
            clear HYES HNOT HO2
            go_wp2_with (first | (go_at_call_of 125 (Value.slice (some ⟨g2, 0, none⟩) n c2); refine HW1.out.mono ?_; rintro e w4 ⟨rfl, m4, rfl⟩) | (go_at_call_of 125 (Value.slice (some ⟨gB, 0, none⟩) n cB); refine (HW2.out _).mono ?_; rintro e w5 ⟨rfl, m5, rfl⟩))
            go_wp2_with fail
            refine (next_n (m := 3) (some ⟨g, 0, none⟩) c [y0, y1, y2] n _ rfl (HOY.out.drewN _).rd (by omega) (by omega) (by omega) HFB.out).mono ?_
            rintro e w3 (⟨zs, g3, c3, HN, rfl, o3, b3⟩ | ⟨HN, rfl, b3⟩)
            · have HS3 := Lib.hid (HST.out.next HN)
              have hz3 := HS3.out.2.1.1
              have HL3 := Lib.hid (HF.out.next HN).2
              have B3 := (below_drewN' HB2.out _).trans (b3.mono (below_drewN' HB2.out _).size)
              have O3 := Lib.hid (o3.base (below_drewN' HB2.out _).size)
              have OB := Lib.hid ((HOB2.out.drewN _).below b3)
              clear HN o3 b3
              rw [hz3]
              go_wp2
              go_roundw
              case rel => exact ⟨L ++ [[y0, y1, y2]], _, _, _, rfl, OB, HBN, B3, .inl ⟨g3, c3, zs, rfl, O3, HS3⟩⟩
              case measure => rw [HL.out, left3_own O3.out hz3]; have := HL3.out; omega
            · have HS3 := Lib.hid (HST.out.last HN)
              have B3 := (below_drewN' HB2.out _).trans (b3.mono (below_drewN' HB2.out _).size)
              have OB := Lib.hid ((HOB2.out.drewN _).below b3)
              clear HN b3
              go_wp2
              go_roundw
              case rel => exact ⟨L ++ [[y0, y1, y2]], _, _, _, rfl, OB, HBN, B3, .inr ⟨rfl, HS3⟩⟩
              case measure => rw [HL.out, roundsLeft_nil]; omega
    · have hl := HEND.out L l HBL.out HD.out
      subst hl
      go_wp2
      go_ret
      exact ⟨gB, cB, rfl, HOB.out, hb⟩

end Go.Proofs.Ytpildecpabeanaa
