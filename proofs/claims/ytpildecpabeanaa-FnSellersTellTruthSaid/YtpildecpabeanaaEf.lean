/-
  Chapter 10, the model: the contract of inOrder.
-/
import Derived.Test.YtpildecpabeanaaEb
import Derived.Test.YtpildecpabeanaaOne
import Derived.Test.YtpildecpabeanaaAp
import Derived.Deep.RegionLaw
namespace Go.Proofs.Ytpildecpabeanaa
open Go.RowKit

def lstN (l : List Nat) : List Int := l.map (fun (j : Nat) => (j : Int))
theorem lstN_len (l : List Nat) : (lstN l).length = l.length := by simp [lstN]
theorem lstN_at {l : List Nat} {k j : Nat} (h : l[k]? = some j) : (lstN l)[k]? = some (j : Int) := by unfold lstN; rw [List.getElem?_map, h]; rfl
theorem lstN_ins {P : Nat → Bool} {i m : Nat} {l : List Nat} (hm : cutP P l = m) : (lstN l).take m ++ [(i : Int)] ++ (lstN l).drop m = lstN (insP P i l) := by
  unfold lstN insP; rw [hm]; simp
/-- What inOrder hands back. -/
def OrdIs (w : World) (l : List Nat) (n : Nat) (e : Ending) (w' : World) : Prop :=
  ∃ g c, e = .returned (.slice (some ⟨g, 0, none⟩) n c) ∧ Own w' w.heap.size (some ⟨g, 0, none⟩) c (lstN l) ∧ Below w.heap.size w w'
theorem ord_at {f : Nat → Int} {n k : Nat} (hk : k < n) : ∃ j, (ordF f n)[k]? = some j ∧ j < n := by
  have h : k < (ordF f n).length := by rw [ordF_len]; exact hk
  exact ⟨(ordF f n)[k], List.getElem?_eq_getElem h, ordF_lt (List.getElem_mem h)⟩

theorem insA {W W1 w3 : World} {g1 c1 : Nat} {zs : List Int} (y : Int) (hB : Below W.heap.size W W1) (ho : Own w3 W.heap.size (some ⟨g1, 0, none⟩) c1 ([] ++ zs)) (hg : W1.grownBy w3 (some W.heap.size)) :
    Hid (Own (w3.alloc (.cells #[.int .i64 y] 3)) W.heap.size (some ⟨g1, 0, none⟩) c1 zs) ∧ Hid (Rd (w3.alloc (.cells #[.int .i64 y] 3)) (some ⟨w3.heap.size, 0, none⟩) 1 [y]) ∧ Hid (Below W.heap.size W (w3.alloc (.cells #[.int .i64 y] 3))) ∧ Hid (W.heap.size ≤ (w3.alloc (.cells #[.int .i64 y] 3)).heap.size) := by
  rw [List.nil_append] at ho
  have h3 := hB.grown hg hB.size (fun k hk => by cases hk; exact Nat.le_refl _)
  have h4 := h3.alloc h3.size (.cells #[.int .i64 y] 3)
  exact ⟨ho.below ((Below.refl w3.heap.size w3).alloc (Nat.le_refl _) _), (own_lit w3 [y] (by simp)).rd, h4, h4.size⟩
theorem insB {W W3 w4 : World} {g1 c1 g2 c2 g c qq : Nat} {zs us vs : List Int} (hB : Hid (Below W.heap.size W W3)) (h1 : Hid (Own W3 W.heap.size (some ⟨g1, 0, none⟩) c1 us)) (ho : Own w4 W.heap.size (some ⟨g2, 0, none⟩) c2 vs) (hg : W3.grownBy w4 (some g1))
    (hz : Rd W (some ⟨g, 0, none⟩) c zs) (hl : zs.length ≤ c) (m : Nat) : Hid (Own w4 W.heap.size (some ⟨g2, 0, none⟩) c2 vs) ∧ Hid (Below W.heap.size W w4) ∧ Hid (Rd w4 (if c = m then some ⟨g, 0, none⟩ else some ⟨g, m, none⟩) qq (zs.drop m)) ∧ Hid (W.heap.size ≤ w4.heap.size) := by
  have h4 := hB.out.grown hg hB.out.size (fun q hq => by cases hq; exact h1.out.ge)
  exact ⟨ho, h4, (hz.below h4).cut_ hl, h4.size⟩

theorem insC {W W1 w3 : World} {g1 c1 e l : Nat} {zs : List Int} {y : Int} (hB : Hid (Below W.heap.size W W1)) (he : W.heap.size ≤ e) (hl : Hid (Own W1 W.heap.size (some ⟨l, 0, none⟩) 1 [y])) (hne : l ≠ e) (ho : Own w3 W.heap.size (some ⟨g1, 0, none⟩) c1 ([] ++ zs)) (hg : W1.grownBy w3 (some e)) :
    Hid (Own w3 W.heap.size (some ⟨g1, 0, none⟩) c1 zs) ∧ Hid (Rd w3 (some ⟨l, 0, none⟩) 1 [y]) ∧ Hid (Below W.heap.size W w3) ∧ Hid (W.heap.size ≤ w3.heap.size) := by
  rw [List.nil_append] at ho
  have h3 := hB.out.grown hg hB.out.size (fun k hk => by cases hk; exact he)
  exact ⟨ho, Own.rd (World.ownsRow.kept hl.out hg (.inr (by simpa [Value.ownBlock] using hne))), h3, h3.size⟩
theorem insW (W : World) (y : Int) :
    (Hid (Own ((W.alloc (.cells #[] 3)).alloc (.cells #[.int .i64 y] 3)).drew W.heap.size (some ⟨W.heap.size, 0, none⟩) 0 []) ∧
      Hid (Own ((W.alloc (.cells #[] 3)).alloc (.cells #[.int .i64 y] 3)).drew W.heap.size (some ⟨W.heap.size + 1, 0, none⟩) 1 [y]) ∧
      Hid (Below W.heap.size W ((W.alloc (.cells #[] 3)).alloc (.cells #[.int .i64 y] 3)).drew)) ∧
    (Hid (Own ((W.alloc (.cells #[.int .i64 y] 3)).alloc (.cells #[] 3)).drew W.heap.size (some ⟨W.heap.size + 1, 0, none⟩) 0 []) ∧
      Hid (Own ((W.alloc (.cells #[.int .i64 y] 3)).alloc (.cells #[] 3)).drew W.heap.size (some ⟨W.heap.size, 0, none⟩) 1 [y]) ∧
      Hid (Below W.heap.size W ((W.alloc (.cells #[.int .i64 y] 3)).alloc (.cells #[] 3)).drew)) := by
  have b1 := (Below.refl W.heap.size W).alloc (Nat.le_refl _) (.cells #[] 3)
  have b2 := (Below.refl W.heap.size W).alloc (Nat.le_refl _) (.cells #[.int .i64 y] 3)
  have s1 : (W.alloc (.cells #[] 3)).heap.size = W.heap.size + 1 := by simp
  have s2 : (W.alloc (.cells #[.int .i64 y] 3)).heap.size = W.heap.size + 1 := by simp
  have p1 := own_lit (W.alloc (.cells #[] 3)) [y] (by simp)
  have p2 := own_empty (W.alloc (.cells #[.int .i64 y] 3))
  rw [s1] at p1
  rw [s2] at p2
  have p3 : Own (W.alloc (.cells #[.int .i64 y] 3)) W.heap.size (some ⟨W.heap.size, 0, none⟩) 1 [y] := own_lit W [y] (by simp)
  exact ⟨⟨(own_empty W).below ((Below.refl _ _).alloc (Nat.le_refl _) _).drew, p1.base (Nat.le_succ _), (b1.alloc b1.size _).drew⟩,
    ⟨p2.base (Nat.le_succ _), p3.below ((Below.refl _ _).alloc (Nat.le_refl _) _).drew, (b2.alloc b2.size _).drew⟩⟩

theorem insD {w W w5 : World} {g3 c3 : Nat} {xs ys : List Int} (h : Hid (xs = ys)) (ho : Own w5 W.heap.size (some ⟨g3, 0, none⟩) c3 xs) (hb : Hid (Below w.heap.size w W)) : Hid (Own w5 w.heap.size (some ⟨g3, 0, none⟩) c3 ys) := by
  rw [← h.out]; exact ho.base hb.out.size
theorem insE {w W w4 w5 : World} {g2 c2 : Nat} {vs : List Int} (hw : Hid (Below w.heap.size w W)) (hb : Hid (Below W.heap.size W w4)) (h : Hid (Own w4 W.heap.size (some ⟨g2, 0, none⟩) c2 vs)) (hg : w4.grownBy w5 (some g2)) : Hid (Below w.heap.size w w5) :=
  hw.out.trans ((hb.out.grown hg hb.out.size (fun k hk => by cases hk; exact h.out.ge)).mono hw.out.size)

set_option maxHeartbeats 2000000 in
theorem inOrder_dn (A : Option Addr) (c : Nat) (xs : List Int) (f : Nat → Int) (w : World) (hf : f = (fun j => xs.getD j 0)) (h : Rd w A c xs) (hl : xs.length ≤ 6) :
    Calls Try.prog 71 #[.slice A xs.length c, .bool true] w (OrdIs w (ordF f xs.length) xs.length) := by
  have HF := Lib.hid hf
  clear hf
  go_enter Try.func71, Try.ntmps71
  go_wp2
  go_loopw [5, 6] (fun o i wr => ∃ k g c' : Nat, k ≤ xs.length ∧ i = .int .i64 k ∧ o = .slice (some ⟨g, 0, none⟩) k c' ∧ Hid (Own wr w.heap.size (some ⟨g, 0, none⟩) c' (lstN (ordF f k))) ∧ Below w.heap.size w wr)
    (fun _ i _ => xs.length - (intOf i).toNat)
  case atStart => exact ⟨0, w.heap.size, 0, Nat.zero_le _, rfl, rfl, Lib.hid (own_empty w), (Below.refl _ _).alloc (Nat.le_refl _) _⟩
  case round =>
    obtain ⟨k, g, c', hk, rfl, rfl, HO, hb⟩ := hrel
    by_cases hlt : k < xs.length
    · go_wp2
      go_loopw [7] (fun q wr' => ∃ m n : Nat, m ≤ k ∧ q = .int .i64 m ∧ wr' = wr.drewN n ∧ Hid (cutP (fun j => decide (f k ≤ f j)) (ordF f k) = m + cutP (fun j => decide (f k ≤ f j)) ((ordF f k).drop m)))
        (fun q _ => k - (intOf q).toNat)
      case atStart => exact ⟨0, 0, Nat.zero_le _, rfl, rfl, Lib.hid (by simp)⟩
      case round =>
        obtain ⟨m, n, hm, rfl, rfl, HQ⟩ := hrel
        by_cases hmk : m < k
        · obtain ⟨j, hj, hjk⟩ := ord_at (f := f) hmk
          have hcj := HO.out.cell (lstN_at hj)
          have hjl : j < xs.length := by omega
          obtain ⟨b, off, x, rfl, _, hx, hcx⟩ := (h.below hb).at_ hjl
          obtain ⟨b2, off2, y, hA, _, hy, hcy⟩ := (h.below hb).at_ hlt
          cases hA
          have ef1 : f j = x := by rw [HF.out]; show xs.getD j 0 = x; rw [getD_of hx.out]
          have ef2 : f k = y := by rw [HF.out]; show xs.getD k 0 = y; rw [getD_of hy.out]
          have HP : Hid (decide (f k ≤ f j) = decide (y ≤ x)) := Lib.hid (by rw [ef1, ef2]; try exact decide_eq_decide.2 (by omega))
          clear ef1 ef2
          by_cases hxy : y ≤ x
          · have HQ' : Hid (cutP (fun j => decide (f k ≤ f j)) (ordF f k) = m + 1 + cutP (fun j => decide (f k ≤ f j)) ((ordF f k).drop (m + 1))) := Lib.hid (by rw [HQ.out, cutP_step hj (by rw [HP.out]; simpa using hxy)]; omega)
            clear hj HP
            go_wp2
            go_quiet (fail)
            go_wp2
            go_roundw
            case rel => exact ⟨m + 1, _, by omega, by go_num, rfl, HQ'⟩
            case measure => simp [intOf]; omega
          · have HST : Hid (cutP (fun j => decide (f k ≤ f j)) ((ordF f k).drop m) = 0) := Lib.hid (cutP_stop hj (by rw [HP.out]; simpa using hxy))
            have hdf : decide (y ≤ x) = false := decide_eq_false hxy
            clear hj HP
            go_wp2_with fail
            go_quiet (fail)
            go_wp2_with fail
            obtain ⟨W, hW⟩ : ∃ W, W = (wr.drewN n).drewN nq := ⟨_, rfl⟩
            have HOW : Hid (Own W w.heap.size (some ⟨g, 0, none⟩) c' (lstN (ordF f k))) := Lib.hid (by rw [hW]; exact HO.out)
            have HBW : Hid (Below w.heap.size w W) := Lib.hid (by rw [hW]; exact below_drewN' (below_drewN' hb _) _)
            rw [← hW]
            clear hW
            have hcap := HOW.out.cap
            rw [lstN_len, ordF_len] at hcap
            have h01 : (0 : Int) ≤ (m : Int) := by omega
            have h02 : (m : Int) ≤ (c' : Int) := by omega
            have h03 : (m : Int) ≤ (k : Int) := by omega
            have h05 : (k : Int) ≤ (c' : Int) := by omega
            have h07 : m ≤ c' := by omega
            have h09 : k ≤ c' := hcap.1
            have HC : Hid (cutP (fun j => decide (f k ≤ f j)) (ordF f k) = m) := Lib.hid (by rw [HQ.out, HST.out]; rfl)
            have HINS : Hid ((lstN (ordF f k)).take m ++ [(k : Int)] ++ (lstN (ordF f k)).drop m = lstN (ordF f (k + 1))) := Lib.hid (lstN_ins HC.out)
            have hLL : (lstN (ordF f k)).length = k := by rw [lstN_len, ordF_len]
            have HT1 : Hid (((lstN (ordF f k)).take m).length = m) := Lib.hid (by rw [List.length_take, hLL]; omega)
            have HT2 : Hid (((lstN (ordF f k)).take m ++ [(k : Int)]).length = m + 1) := Lib.hid (by rw [List.length_append, HT1.out]; rfl)
            have HT3 : Hid (((lstN (ordF f k)).drop m).length = k - m) := Lib.hid (by rw [List.length_drop, hLL]; try omega)
            have HLL := Lib.hid hLL
            have HE0 : Hid (Own (W.alloc (.cells #[] 3)).drew W.heap.size (some ⟨W.heap.size, 0, none⟩) 0 []) := Lib.hid (own_empty W)
            have HB0 : Hid (Below W.heap.size W (W.alloc (.cells #[] 3)).drew) := Lib.hid ((Below.refl W.heap.size W).alloc (Nat.le_refl _) (.cells #[] 3)).drew
            have HRT : Hid (Rd (W.alloc (.cells #[] 3)).drew (some ⟨g, 0, none⟩) c' ((lstN (ordF f k)).take m)) := Lib.hid ((HOW.out.rd.below HB0.out).take_ m)
            have HS0 := Lib.hid HB0.out.size
            clear HST HQ hLL
            obtain ⟨⟨HEB, HLB, HBB⟩, ⟨HEC, HLC, HBC⟩⟩ := insW W (k : Int)
            have HSB := Lib.hid HBB.out.size
            have HSC := Lib.hid HBC.out.size
            have HRB := Lib.hid ((HOW.out.rd.below HBB.out).take_ (c2 := c') m)
            have HRC := Lib.hid ((HOW.out.rd.below HBC.out).take_ (c2 := c') m)
            have hS1 : W.heap.size ≤ W.heap.size + 1 := by omega
            go_region_law (first
              | ((refine step_append_ints (by rfl) _ _ (by rfl) W.heap.size _ 0 [] 0 rfl (by rfl) HE0.out (some ⟨g, 0, none⟩) _ ((lstN (ordF f k)).take m) m HT1.out (by rfl) HRT.out (by omega) HS0.out ?_; intro g1 c1' w3 ho3 hg3; obtain ⟨HO3, HL3, HB3, HS3⟩ := insA (k : Int) HB0.out ho3 hg3))
              | ((refine step_append_ints (by rfl) _ _ (by rfl) W.heap.size _ 0 [] 0 rfl (by rfl) HEB.out (some ⟨g, 0, none⟩) _ ((lstN (ordF f k)).take m) m HT1.out (by rfl) HRB.out (by omega) HSB.out ?_; intro g1 c1' w3 ho3 hg3; obtain ⟨HO3, HL3, HB3, HS3⟩ := insC HBB (Nat.le_refl _) HLB (by omega) ho3 hg3))
              | ((refine step_append_ints (by rfl) _ _ (by rfl) W.heap.size _ 0 [] 0 rfl (by rfl) HEC.out (some ⟨g, 0, none⟩) _ ((lstN (ordF f k)).take m) m HT1.out (by rfl) HRC.out (by omega) HSC.out ?_; intro g1 c1' w3 ho3 hg3; obtain ⟨HO3, HL3, HB3, HS3⟩ := insC HBC hS1 HLC (by omega) ho3 hg3))
              | ((refine step_append_ints (by rfl) _ _ (by rfl) W.heap.size _ _ ((lstN (ordF f k)).take m) m HT1.out (by rfl) HO3.out _ 1 [(k : Int)] 1 rfl (by rfl) HL3.out (by omega) HS3.out ?_; intro g2 c2' w4 ho4 hg4; obtain ⟨HO4, HB4, HR4, HS4⟩ := insB (qq := c' - m) HB3 HO3 ho4 hg4 HOW.out.rd (by rw [HLL.out]; exact h09) m))
              | ((refine step_append_ints (by rfl) _ _ (by rfl) W.heap.size _ _ ((lstN (ordF f k)).take m ++ [(k : Int)]) (m + 1) HT2.out (by rfl) HO4.out _ _ ((lstN (ordF f k)).drop m) (k - m) HT3.out (by rfl) HR4.out (by omega) HS4.out ?_; intro g3 c3' w5 ho5 hg5)))
            all_goals
              have HO5 := insD HINS ho5 HBW
              have HB5 := insE HBW HB4 HO4 hg5
              have hk1 : m + 1 + (k - m) = k + 1 := by omega
              try rw [hk1]
              clear ho5 hg5 hk1
              go_wp2
              go_roundw
              case rel => exact ⟨k + 1, g3, c3', by omega, by go_num, rfl, HO5, HB5.out⟩
              case measure => simp [intOf]; omega
        · obtain rfl : m = k := by omega
          have HST : Hid (cutP (fun j => decide (f m ≤ f j)) ((ordF f m).drop m) = 0) := Lib.hid (by have := cutP_end (P := fun j => decide (f m ≤ f j)) (l := ordF f m); rw [ordF_len] at this; exact this)
          go_wp2_with fail
          go_quiet (fail)
          go_wp2_with fail
          obtain ⟨W, hW⟩ : ∃ W, W = (wr.drewN n).drewN nq := ⟨_, rfl⟩
          have HOW : Hid (Own W w.heap.size (some ⟨g, 0, none⟩) c' (lstN (ordF f m))) := Lib.hid (by rw [hW]; exact HO.out)
          have HBW : Hid (Below w.heap.size w W) := Lib.hid (by rw [hW]; exact below_drewN' (below_drewN' hb _) _)
          rw [← hW]
          clear hW
          have hcap := HOW.out.cap
          rw [lstN_len, ordF_len] at hcap
          have h01 : (0 : Int) ≤ (m : Int) := by omega
          have h02 : (m : Int) ≤ (c' : Int) := by omega
          have h03 : (m : Int) ≤ (m : Int) := by omega
          have h05 : (m : Int) ≤ (c' : Int) := by omega
          have h07 : m ≤ c' := by omega
          have h09 : m ≤ c' := hcap.1
          have HC : Hid (cutP (fun j => decide (f m ≤ f j)) (ordF f m) = m) := Lib.hid (by rw [HQ.out, HST.out]; rfl)
          have HINS : Hid ((lstN (ordF f m)).take m ++ [(m : Int)] ++ (lstN (ordF f m)).drop m = lstN (ordF f (m + 1))) := Lib.hid (lstN_ins HC.out)
          have hLL : (lstN (ordF f m)).length = m := by rw [lstN_len, ordF_len]
          have HT1 : Hid (((lstN (ordF f m)).take m).length = m) := Lib.hid (by rw [List.length_take, hLL]; omega)
          have HT2 : Hid (((lstN (ordF f m)).take m ++ [(m : Int)]).length = m + 1) := Lib.hid (by rw [List.length_append, HT1.out]; rfl)
          have HT3 : Hid (((lstN (ordF f m)).drop m).length = 0) := Lib.hid (by rw [List.length_drop, hLL]; try omega)
          have HLL := Lib.hid hLL
          have HE0 : Hid (Own (W.alloc (.cells #[] 3)).drew W.heap.size (some ⟨W.heap.size, 0, none⟩) 0 []) := Lib.hid (own_empty W)
          have HB0 : Hid (Below W.heap.size W (W.alloc (.cells #[] 3)).drew) := Lib.hid ((Below.refl W.heap.size W).alloc (Nat.le_refl _) (.cells #[] 3)).drew
          have HRT : Hid (Rd (W.alloc (.cells #[] 3)).drew (some ⟨g, 0, none⟩) c' ((lstN (ordF f m)).take m)) := Lib.hid ((HOW.out.rd.below HB0.out).take_ m)
          have HS0 := Lib.hid HB0.out.size
          clear HST HQ hLL
          obtain ⟨⟨HEB, HLB, HBB⟩, ⟨HEC, HLC, HBC⟩⟩ := insW W (m : Int)
          have HSB := Lib.hid HBB.out.size
          have HSC := Lib.hid HBC.out.size
          have HRB := Lib.hid ((HOW.out.rd.below HBB.out).take_ (c2 := c') m)
          have HRC := Lib.hid ((HOW.out.rd.below HBC.out).take_ (c2 := c') m)
          have hS1 : W.heap.size ≤ W.heap.size + 1 := by omega
          go_region_law (first
            | ((refine step_append_ints (by rfl) _ _ (by rfl) W.heap.size _ 0 [] 0 rfl (by rfl) HE0.out (some ⟨g, 0, none⟩) _ ((lstN (ordF f m)).take m) m HT1.out (by rfl) HRT.out (by omega) HS0.out ?_; intro g1 c1' w3 ho3 hg3; obtain ⟨HO3, HL3, HB3, HS3⟩ := insA (m : Int) HB0.out ho3 hg3))
            | ((refine step_append_ints (by rfl) _ _ (by rfl) W.heap.size _ 0 [] 0 rfl (by rfl) HEB.out (some ⟨g, 0, none⟩) _ ((lstN (ordF f m)).take m) m HT1.out (by rfl) HRB.out (by omega) HSB.out ?_; intro g1 c1' w3 ho3 hg3; obtain ⟨HO3, HL3, HB3, HS3⟩ := insC HBB (Nat.le_refl _) HLB (by omega) ho3 hg3))
            | ((refine step_append_ints (by rfl) _ _ (by rfl) W.heap.size _ 0 [] 0 rfl (by rfl) HEC.out (some ⟨g, 0, none⟩) _ ((lstN (ordF f m)).take m) m HT1.out (by rfl) HRC.out (by omega) HSC.out ?_; intro g1 c1' w3 ho3 hg3; obtain ⟨HO3, HL3, HB3, HS3⟩ := insC HBC hS1 HLC (by omega) ho3 hg3))
            | ((refine step_append_ints (by rfl) _ _ (by rfl) W.heap.size _ _ ((lstN (ordF f m)).take m) m HT1.out (by rfl) HO3.out _ 1 [(m : Int)] 1 rfl (by rfl) HL3.out (by omega) HS3.out ?_; intro g2 c2' w4 ho4 hg4; obtain ⟨HO4, HB4, HR4, HS4⟩ := insB (qq := c' - m) HB3 HO3 ho4 hg4 HOW.out.rd (by rw [HLL.out]; exact h09) m))
            | ((refine step_append_ints (by rfl) _ _ (by rfl) W.heap.size _ _ ((lstN (ordF f m)).take m ++ [(m : Int)]) (m + 1) HT2.out (by rfl) HO4.out _ _ ((lstN (ordF f m)).drop m) 0 HT3.out (by rfl) HR4.out (by omega) HS4.out ?_; intro g3 c3' w5 ho5 hg5)))
          all_goals
            have HO5 := insD HINS ho5 HBW
            have HB5 := insE HBW HB4 HO4 hg5
            have hk1 : m + 1 + 0 = m + 1 := by omega
            try rw [hk1]
            clear ho5 hg5 hk1
            go_wp2
            go_roundw
            case rel => exact ⟨m + 1, g3, c3', by omega, by go_num, rfl, HO5, HB5.out⟩
            case measure => simp [intOf]; omega
    · obtain rfl : k = xs.length := by omega
      go_wp2
      go_ret
      exact ⟨g, c', rfl, HO.out, hb⟩

set_option maxHeartbeats 2000000 in
theorem inOrder_up (A : Option Addr) (c : Nat) (xs : List Int) (f : Nat → Int) (w : World) (hf : f = (fun j => -xs.getD j 0)) (h : Rd w A c xs) (hl : xs.length ≤ 6) :
    Calls Try.prog 71 #[.slice A xs.length c, .bool false] w (OrdIs w (ordF f xs.length) xs.length) := by
  have HF := Lib.hid hf
  clear hf
  go_enter Try.func71, Try.ntmps71
  go_wp2
  go_loopw [5, 6] (fun o i wr => ∃ k g c' : Nat, k ≤ xs.length ∧ i = .int .i64 k ∧ o = .slice (some ⟨g, 0, none⟩) k c' ∧ Hid (Own wr w.heap.size (some ⟨g, 0, none⟩) c' (lstN (ordF f k))) ∧ Below w.heap.size w wr)
    (fun _ i _ => xs.length - (intOf i).toNat)
  case atStart => exact ⟨0, w.heap.size, 0, Nat.zero_le _, rfl, rfl, Lib.hid (own_empty w), (Below.refl _ _).alloc (Nat.le_refl _) _⟩
  case round =>
    obtain ⟨k, g, c', hk, rfl, rfl, HO, hb⟩ := hrel
    by_cases hlt : k < xs.length
    · go_wp2
      go_loopw [7] (fun q wr' => ∃ m n : Nat, m ≤ k ∧ q = .int .i64 m ∧ wr' = wr.drewN n ∧ Hid (cutP (fun j => decide (f k ≤ f j)) (ordF f k) = m + cutP (fun j => decide (f k ≤ f j)) ((ordF f k).drop m)))
        (fun q _ => k - (intOf q).toNat)
      case atStart => exact ⟨0, 0, Nat.zero_le _, rfl, rfl, Lib.hid (by simp)⟩
      case round =>
        obtain ⟨m, n, hm, rfl, rfl, HQ⟩ := hrel
        by_cases hmk : m < k
        · obtain ⟨j, hj, hjk⟩ := ord_at (f := f) hmk
          have hcj := HO.out.cell (lstN_at hj)
          have hjl : j < xs.length := by omega
          obtain ⟨b, off, x, rfl, _, hx, hcx⟩ := (h.below hb).at_ hjl
          obtain ⟨b2, off2, y, hA, _, hy, hcy⟩ := (h.below hb).at_ hlt
          cases hA
          have ef1 : f j = -x := by rw [HF.out]; show -xs.getD j 0 = -x; rw [getD_of hx.out]
          have ef2 : f k = -y := by rw [HF.out]; show -xs.getD k 0 = -y; rw [getD_of hy.out]
          have HP : Hid (decide (f k ≤ f j) = decide (x ≤ y)) := Lib.hid (by rw [ef1, ef2]; try exact decide_eq_decide.2 (by omega))
          clear ef1 ef2
          by_cases hxy : x ≤ y
          · have HQ' : Hid (cutP (fun j => decide (f k ≤ f j)) (ordF f k) = m + 1 + cutP (fun j => decide (f k ≤ f j)) ((ordF f k).drop (m + 1))) := Lib.hid (by rw [HQ.out, cutP_step hj (by rw [HP.out]; simpa using hxy)]; omega)
            clear hj HP
            go_wp2
            go_quiet (fail)
            go_wp2
            go_roundw
            case rel => exact ⟨m + 1, _, by omega, by go_num, rfl, HQ'⟩
            case measure => simp [intOf]; omega
          · have HST : Hid (cutP (fun j => decide (f k ≤ f j)) ((ordF f k).drop m) = 0) := Lib.hid (cutP_stop hj (by rw [HP.out]; simpa using hxy))
            have hdf : decide (x ≤ y) = false := decide_eq_false hxy
            clear hj HP
            go_wp2_with fail
            go_quiet (fail)
            go_wp2_with fail
            obtain ⟨W, hW⟩ : ∃ W, W = (wr.drewN n).drewN nq := ⟨_, rfl⟩
            have HOW : Hid (Own W w.heap.size (some ⟨g, 0, none⟩) c' (lstN (ordF f k))) := Lib.hid (by rw [hW]; exact HO.out)
            have HBW : Hid (Below w.heap.size w W) := Lib.hid (by rw [hW]; exact below_drewN' (below_drewN' hb _) _)
            rw [← hW]
            clear hW
            have hcap := HOW.out.cap
            rw [lstN_len, ordF_len] at hcap
            have h01 : (0 : Int) ≤ (m : Int) := by omega
            have h02 : (m : Int) ≤ (c' : Int) := by omega
            have h03 : (m : Int) ≤ (k : Int) := by omega
            have h05 : (k : Int) ≤ (c' : Int) := by omega
            have h07 : m ≤ c' := by omega
            have h09 : k ≤ c' := hcap.1
            have HC : Hid (cutP (fun j => decide (f k ≤ f j)) (ordF f k) = m) := Lib.hid (by rw [HQ.out, HST.out]; rfl)
            have HINS : Hid ((lstN (ordF f k)).take m ++ [(k : Int)] ++ (lstN (ordF f k)).drop m = lstN (ordF f (k + 1))) := Lib.hid (lstN_ins HC.out)
            have hLL : (lstN (ordF f k)).length = k := by rw [lstN_len, ordF_len]
            have HT1 : Hid (((lstN (ordF f k)).take m).length = m) := Lib.hid (by rw [List.length_take, hLL]; omega)
            have HT2 : Hid (((lstN (ordF f k)).take m ++ [(k : Int)]).length = m + 1) := Lib.hid (by rw [List.length_append, HT1.out]; rfl)
            have HT3 : Hid (((lstN (ordF f k)).drop m).length = k - m) := Lib.hid (by rw [List.length_drop, hLL]; try omega)
            have HLL := Lib.hid hLL
            have HE0 : Hid (Own (W.alloc (.cells #[] 3)).drew W.heap.size (some ⟨W.heap.size, 0, none⟩) 0 []) := Lib.hid (own_empty W)
            have HB0 : Hid (Below W.heap.size W (W.alloc (.cells #[] 3)).drew) := Lib.hid ((Below.refl W.heap.size W).alloc (Nat.le_refl _) (.cells #[] 3)).drew
            have HRT : Hid (Rd (W.alloc (.cells #[] 3)).drew (some ⟨g, 0, none⟩) c' ((lstN (ordF f k)).take m)) := Lib.hid ((HOW.out.rd.below HB0.out).take_ m)
            have HS0 := Lib.hid HB0.out.size
            clear HST HQ hLL
            obtain ⟨⟨HEB, HLB, HBB⟩, ⟨HEC, HLC, HBC⟩⟩ := insW W (k : Int)
            have HSB := Lib.hid HBB.out.size
            have HSC := Lib.hid HBC.out.size
            have HRB := Lib.hid ((HOW.out.rd.below HBB.out).take_ (c2 := c') m)
            have HRC := Lib.hid ((HOW.out.rd.below HBC.out).take_ (c2 := c') m)
            have hS1 : W.heap.size ≤ W.heap.size + 1 := by omega
            go_region_law (first
              | ((refine step_append_ints (by rfl) _ _ (by rfl) W.heap.size _ 0 [] 0 rfl (by rfl) HE0.out (some ⟨g, 0, none⟩) _ ((lstN (ordF f k)).take m) m HT1.out (by rfl) HRT.out (by omega) HS0.out ?_; intro g1 c1' w3 ho3 hg3; obtain ⟨HO3, HL3, HB3, HS3⟩ := insA (k : Int) HB0.out ho3 hg3))
              | ((refine step_append_ints (by rfl) _ _ (by rfl) W.heap.size _ 0 [] 0 rfl (by rfl) HEB.out (some ⟨g, 0, none⟩) _ ((lstN (ordF f k)).take m) m HT1.out (by rfl) HRB.out (by omega) HSB.out ?_; intro g1 c1' w3 ho3 hg3; obtain ⟨HO3, HL3, HB3, HS3⟩ := insC HBB (Nat.le_refl _) HLB (by omega) ho3 hg3))
              | ((refine step_append_ints (by rfl) _ _ (by rfl) W.heap.size _ 0 [] 0 rfl (by rfl) HEC.out (some ⟨g, 0, none⟩) _ ((lstN (ordF f k)).take m) m HT1.out (by rfl) HRC.out (by omega) HSC.out ?_; intro g1 c1' w3 ho3 hg3; obtain ⟨HO3, HL3, HB3, HS3⟩ := insC HBC hS1 HLC (by omega) ho3 hg3))
              | ((refine step_append_ints (by rfl) _ _ (by rfl) W.heap.size _ _ ((lstN (ordF f k)).take m) m HT1.out (by rfl) HO3.out _ 1 [(k : Int)] 1 rfl (by rfl) HL3.out (by omega) HS3.out ?_; intro g2 c2' w4 ho4 hg4; obtain ⟨HO4, HB4, HR4, HS4⟩ := insB (qq := c' - m) HB3 HO3 ho4 hg4 HOW.out.rd (by rw [HLL.out]; exact h09) m))
              | ((refine step_append_ints (by rfl) _ _ (by rfl) W.heap.size _ _ ((lstN (ordF f k)).take m ++ [(k : Int)]) (m + 1) HT2.out (by rfl) HO4.out _ _ ((lstN (ordF f k)).drop m) (k - m) HT3.out (by rfl) HR4.out (by omega) HS4.out ?_; intro g3 c3' w5 ho5 hg5)))
            all_goals
              have HO5 := insD HINS ho5 HBW
              have HB5 := insE HBW HB4 HO4 hg5
              have hk1 : m + 1 + (k - m) = k + 1 := by omega
              try rw [hk1]
              clear ho5 hg5 hk1
              go_wp2
              go_roundw
              case rel => exact ⟨k + 1, g3, c3', by omega, by go_num, rfl, HO5, HB5.out⟩
              case measure => simp [intOf]; omega
        · obtain rfl : m = k := by omega
          have HST : Hid (cutP (fun j => decide (f m ≤ f j)) ((ordF f m).drop m) = 0) := Lib.hid (by have := cutP_end (P := fun j => decide (f m ≤ f j)) (l := ordF f m); rw [ordF_len] at this; exact this)
          go_wp2_with fail
          go_quiet (fail)
          go_wp2_with fail
          obtain ⟨W, hW⟩ : ∃ W, W = (wr.drewN n).drewN nq := ⟨_, rfl⟩
          have HOW : Hid (Own W w.heap.size (some ⟨g, 0, none⟩) c' (lstN (ordF f m))) := Lib.hid (by rw [hW]; exact HO.out)
          have HBW : Hid (Below w.heap.size w W) := Lib.hid (by rw [hW]; exact below_drewN' (below_drewN' hb _) _)
          rw [← hW]
          clear hW
          have hcap := HOW.out.cap
          rw [lstN_len, ordF_len] at hcap
          have h01 : (0 : Int) ≤ (m : Int) := by omega
          have h02 : (m : Int) ≤ (c' : Int) := by omega
          have h03 : (m : Int) ≤ (m : Int) := by omega
          have h05 : (m : Int) ≤ (c' : Int) := by omega
          have h07 : m ≤ c' := by omega
          have h09 : m ≤ c' := hcap.1
          have HC : Hid (cutP (fun j => decide (f m ≤ f j)) (ordF f m) = m) := Lib.hid (by rw [HQ.out, HST.out]; rfl)
          have HINS : Hid ((lstN (ordF f m)).take m ++ [(m : Int)] ++ (lstN (ordF f m)).drop m = lstN (ordF f (m + 1))) := Lib.hid (lstN_ins HC.out)
          have hLL : (lstN (ordF f m)).length = m := by rw [lstN_len, ordF_len]
          have HT1 : Hid (((lstN (ordF f m)).take m).length = m) := Lib.hid (by rw [List.length_take, hLL]; omega)
          have HT2 : Hid (((lstN (ordF f m)).take m ++ [(m : Int)]).length = m + 1) := Lib.hid (by rw [List.length_append, HT1.out]; rfl)
          have HT3 : Hid (((lstN (ordF f m)).drop m).length = 0) := Lib.hid (by rw [List.length_drop, hLL]; try omega)
          have HLL := Lib.hid hLL
          have HE0 : Hid (Own (W.alloc (.cells #[] 3)).drew W.heap.size (some ⟨W.heap.size, 0, none⟩) 0 []) := Lib.hid (own_empty W)
          have HB0 : Hid (Below W.heap.size W (W.alloc (.cells #[] 3)).drew) := Lib.hid ((Below.refl W.heap.size W).alloc (Nat.le_refl _) (.cells #[] 3)).drew
          have HRT : Hid (Rd (W.alloc (.cells #[] 3)).drew (some ⟨g, 0, none⟩) c' ((lstN (ordF f m)).take m)) := Lib.hid ((HOW.out.rd.below HB0.out).take_ m)
          have HS0 := Lib.hid HB0.out.size
          clear HST HQ hLL
          obtain ⟨⟨HEB, HLB, HBB⟩, ⟨HEC, HLC, HBC⟩⟩ := insW W (m : Int)
          have HSB := Lib.hid HBB.out.size
          have HSC := Lib.hid HBC.out.size
          have HRB := Lib.hid ((HOW.out.rd.below HBB.out).take_ (c2 := c') m)
          have HRC := Lib.hid ((HOW.out.rd.below HBC.out).take_ (c2 := c') m)
          have hS1 : W.heap.size ≤ W.heap.size + 1 := by omega
          go_region_law (first
            | ((refine step_append_ints (by rfl) _ _ (by rfl) W.heap.size _ 0 [] 0 rfl (by rfl) HE0.out (some ⟨g, 0, none⟩) _ ((lstN (ordF f m)).take m) m HT1.out (by rfl) HRT.out (by omega) HS0.out ?_; intro g1 c1' w3 ho3 hg3; obtain ⟨HO3, HL3, HB3, HS3⟩ := insA (m : Int) HB0.out ho3 hg3))
            | ((refine step_append_ints (by rfl) _ _ (by rfl) W.heap.size _ 0 [] 0 rfl (by rfl) HEB.out (some ⟨g, 0, none⟩) _ ((lstN (ordF f m)).take m) m HT1.out (by rfl) HRB.out (by omega) HSB.out ?_; intro g1 c1' w3 ho3 hg3; obtain ⟨HO3, HL3, HB3, HS3⟩ := insC HBB (Nat.le_refl _) HLB (by omega) ho3 hg3))
            | ((refine step_append_ints (by rfl) _ _ (by rfl) W.heap.size _ 0 [] 0 rfl (by rfl) HEC.out (some ⟨g, 0, none⟩) _ ((lstN (ordF f m)).take m) m HT1.out (by rfl) HRC.out (by omega) HSC.out ?_; intro g1 c1' w3 ho3 hg3; obtain ⟨HO3, HL3, HB3, HS3⟩ := insC HBC hS1 HLC (by omega) ho3 hg3))
            | ((refine step_append_ints (by rfl) _ _ (by rfl) W.heap.size _ _ ((lstN (ordF f m)).take m) m HT1.out (by rfl) HO3.out _ 1 [(m : Int)] 1 rfl (by rfl) HL3.out (by omega) HS3.out ?_; intro g2 c2' w4 ho4 hg4; obtain ⟨HO4, HB4, HR4, HS4⟩ := insB (qq := c' - m) HB3 HO3 ho4 hg4 HOW.out.rd (by rw [HLL.out]; exact h09) m))
            | ((refine step_append_ints (by rfl) _ _ (by rfl) W.heap.size _ _ ((lstN (ordF f m)).take m ++ [(m : Int)]) (m + 1) HT2.out (by rfl) HO4.out _ _ ((lstN (ordF f m)).drop m) 0 HT3.out (by rfl) HR4.out (by omega) HS4.out ?_; intro g3 c3' w5 ho5 hg5)))
          all_goals
            have HO5 := insD HINS ho5 HBW
            have HB5 := insE HBW HB4 HO4 hg5
            have hk1 : m + 1 + 0 = m + 1 := by omega
            try rw [hk1]
            clear ho5 hg5 hk1
            go_wp2
            go_roundw
            case rel => exact ⟨m + 1, g3, c3', by omega, by go_num, rfl, HO5, HB5.out⟩
            case measure => simp [intOf]; omega
    · obtain rfl : k = xs.length := by omega
      go_wp2
      go_ret
      exact ⟨g, c', rfl, HO.out, hb⟩

end Go.Proofs.Ytpildecpabeanaa
