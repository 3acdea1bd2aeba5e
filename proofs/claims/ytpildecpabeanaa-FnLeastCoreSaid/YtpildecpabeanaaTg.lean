/-
  Chapter 4, the model: texts: the contract of readOffer.
-/
import Derived.Test.YtpildecpabeanaaG26
namespace Go.Proofs.Ytpildecpabeanaa
open Go.RowKit Go.Lib

theorem SsplitAt_n (s : ByteArray) (c : UInt8) (k : Int) (hk : k = (c.toNat : Int)) (w : World) (hs : s.size ≤ 1099511627776) :
    Calls Try.prog 178 #[.string s, .int .u8 k] w fun e w' => ∃ g cc, e = .returned (.slice (some ⟨g, 0, none⟩) (spl c s.data.toList).length cc) ∧ OwnW w' w.heap.size (.slice (some ⟨g, 0, none⟩) (spl c s.data.toList).length cc) (spl c s.data.toList) ∧ Below w.heap.size w w' := by
  subst hk
  refine (SsplitAt_any s c w hs).mono ?_
  rintro e w' ⟨v, rfl, ho, hb⟩
  rcases ho.shape with ⟨_, h⟩ | ⟨g, cc, rfl⟩
  · exact absurd h (spl_ne _ _)
  · exact ⟨g, cc, rfl, ho, hb⟩

/-- The lists that the loop over the words fills. -/
structure ListsAt (W : List (List UInt8)) (w0 : World) (gW cW gO S : Nat) (xs ys : List Int) (ga ca gb cb : Nat) (wr : World) : Prop where
  words : OwnW wr 0 (.slice (some ⟨gW, 0, none⟩) W.length cW) W
  out : Own wr w0.heap.size (some ⟨gO, 0, none⟩) 8 (List.replicate 8 0)
  sets : Own wr S (some ⟨ga, 0, none⟩) ca xs
  prices : Own wr S (some ⟨gb, 0, none⟩) cb ys
  ne : ga ≠ gb
  below : Below w0.heap.size w0 wr
theorem ListsAt.same {W : List (List UInt8)} {w0 : World} {gW cW gO S : Nat} {xs ys : List Int} {ga ca gb cb : Nat} {wr wr' : World} (h : ListsAt W w0 gW cW gO S xs ys ga ca gb cb wr) (hb : Below wr.heap.size wr wr') : ListsAt W w0 gW cW gO S xs ys ga ca gb cb wr' :=
  ⟨h.words.below hb, h.out.below hb, h.sets.below hb, h.prices.below hb, h.ne, below_then h.below hb⟩
theorem ListsAt.addSet {W : List (List UInt8)} {w0 : World} {gW cW gO S : Nat} {xs ys zs : List Int} {ga ca gb cb gc cc : Nat} {wr wr' : World} (h : ListsAt W w0 gW cW gO S xs ys ga ca gb cb wr) (hg : wr.grownBy wr' (some ga)) (ho : Own wr' S (some ⟨gc, 0, none⟩) cc zs) (hc : gc = ga ∨ gc = wr.heap.size)
    (hW : gW < S) (hO : gO < S) (h0 : w0.heap.size ≤ S) : ListsAt W w0 gW cW gO S zs ys gc cc gb cb wr' := by
  have h1 := h.sets.ge
  have h2 := h.prices.lt
  refine ⟨World.ownsRow.kept h.words hg (.inr (by show some gW ≠ some ga; intro e; injection e; omega)), World.ownsRow.kept h.out hg (.inr (by show some gO ≠ some ga; intro e; injection e; omega)), ho, World.ownsRow.kept h.prices hg (.inr (by show some gb ≠ some ga; intro e; injection e with e; exact h.ne e.symm)), ?_, h.below.grown hg h.below.size (fun k e => by injection e with e; omega)⟩
  rcases hc with rfl | rfl
  · exact h.ne
  · omega
theorem ListsAt.addPrice {W : List (List UInt8)} {w0 : World} {gW cW gO S : Nat} {xs ys zs : List Int} {ga ca gb cb gc cc : Nat} {wr wr' : World} (h : ListsAt W w0 gW cW gO S xs ys ga ca gb cb wr) (hg : wr.grownBy wr' (some gb)) (ho : Own wr' S (some ⟨gc, 0, none⟩) cc zs) (hc : gc = gb ∨ gc = wr.heap.size)
    (hW : gW < S) (hO : gO < S) (h0 : w0.heap.size ≤ S) : ListsAt W w0 gW cW gO S xs zs ga ca gc cc wr' := by
  have h1 := h.prices.ge
  have h2 := h.sets.lt
  refine ⟨World.ownsRow.kept h.words hg (.inr (by show some gW ≠ some gb; intro e; injection e; omega)), World.ownsRow.kept h.out hg (.inr (by show some gO ≠ some gb; intro e; injection e; omega)), World.ownsRow.kept h.sets hg (.inr (by show some ga ≠ some gb; intro e; injection e with e; exact h.ne e)), ho, ?_, h.below.grown hg h.below.size (fun k e => by injection e with e; omega)⟩
  rcases hc with rfl | rfl
  · exact h.ne
  · omega

/-- Where the loop over the words stands. -/
structure WordAt (W : List (List UInt8)) (w0 : World) (gW cW gO S : Nat) (k : Nat) (x : Option Bool) (os : Offers) (ga ca gb cb : Nat) (wr : World) : Prop where
  upto : Upto W k x os
  lists : ListsAt W w0 gW cW gO S (setsO os) (pricesO os) ga ca gb cb wr
theorem WordAt.same {W : List (List UInt8)} {w0 : World} {gW cW gO S k : Nat} {x : Option Bool} {os : Offers} {ga ca gb cb : Nat} {wr wr' : World} (h : WordAt W w0 gW cW gO S k x os ga ca gb cb wr) (hb : Below wr.heap.size wr wr') : WordAt W w0 gW cW gO S k x os ga ca gb cb wr' :=
  ⟨h.upto, h.lists.same hb⟩
theorem OwnW.base0 {w : World} {B : Nat} {v : Value} {ws : List (List UInt8)} (h : OwnW w B v ws) : OwnW w 0 v ws := own_base h (Nat.zero_le _)

set_option maxRecDepth 100000 in
set_option maxHeartbeats 4000000 in
theorem SreadOffer_any (s : ByteArray) (w : World) (hs : s.size ≤ 1048576) :
    Calls Try.prog 157 #[.string s] w (RdIs w s.data.toList) := by
  have HP : Hid (∀ w1, Calls Try.prog 113 #[.int .i64 3] w1 fun e w' => e = .returned (.int .i64 8) ∧ w1 = w') := Lib.hid (fun w1 => Spower_any 3 (by omega) w1)
  obtain ⟨l, hl⟩ : ∃ l, l = s.data.toList := ⟨_, rfl⟩
  have HSB : Hid (s = sB l) := Lib.hid (by rw [hl, sB_list])
  have HSP := Lib.hid (fun w1 => SsplitAt_n s 32 32 rfl w1 (by omega))
  rw [← hl] at HSP ⊢
  clear hl
  rcases hem : s.toList.isEmpty with _ | _
  · have HNE : Hid (l ≠ []) := Lib.hid (by
      rintro rfl
      rw [HSB.out] at hem
      simp [sB] at hem)
    obtain ⟨W, hW⟩ : ∃ W, W = spl 32 l := ⟨_, rfl⟩
    have HW := Lib.hid hW
    rw [← hW] at HSP
    clear hW
    go_enter Try.func157, Try.ntmps157
    go_wp2_with (first
      | (go_at_call 113; refine (HP.out _).mono ?_; rintro e w1 ⟨rfl, rfl⟩)
      | (at_make; refine wpList_make_ints rfl _ _ rfl w.heap.size 8 rfl rfl (by omega) (by simp) ?_; intro w2 ho hb)
      | (go_at_call 178; refine (HSP.out _).mono ?_; rintro e w3 ⟨gW, cW, rfl, oW, b3⟩))
    have hgW := oW.lt
    have hs2 : w.heap.size < w2.heap.size := ho.lt
    have b4 : Below w3.heap.size w3 ((w3.alloc (.cells #[] 3)).alloc (.cells #[] 3)) := ((Below.refl _ w3).alloc (Nat.le_refl _) _).alloc (by simp) _
    have HI0 : Hid (WordAt W w gW cW w.heap.size w3.heap.size 0 none [] w3.heap.size 0 (w3.heap.size + 1) 0 ((w3.alloc (.cells #[] 3)).alloc (.cells #[] 3))) := Lib.hid
      ⟨Upto.start W, ⟨oW.base0.below b4, (ho.below b3).below b4, World.ownsRow.alloc (own_empty w3) _, by have := (own_empty (w3.alloc (.cells #[] 3))).base (B' := w3.heap.size) (by simp); rw [World.size_alloc] at this; exact this, by omega, below_then hb (b3.trans (b4.mono b3.size))⟩⟩
    have hgO : w.heap.size < w3.heap.size := Nat.lt_of_lt_of_le hs2 b3.size
    have hgW2 := hgW.2
    clear oW b3 hb ho b4 hgW hs2
    go_loopw [6, 7, 8, 9] (fun sv pv wv iv wr => ∃ (k ga ca gb cb : Nat) (x : Option Bool) (os : Offers), sv = .slice (some ⟨ga, 0, none⟩) os.length ca ∧ pv = .slice (some ⟨gb, 0, none⟩) os.length cb ∧ wv = .string (sB (sepO x)) ∧ iv = .int .i64 (k : Int) ∧ k ≤ W.length ∧ Hid (WordAt W w gW cW w.heap.size w3.heap.size k x os ga ca gb cb wr))
      (fun _ _ _ i _ => W.length - (intOf i).toNat)
    case atStart => exact ⟨0, w3.heap.size, 0, w3.heap.size + 1, 0, none, [], by first | rfl | simp, by first | rfl | simp, rfl, rfl, Nat.zero_le _, HI0⟩
    case round =>
      obtain ⟨k, ga, ca, gb, cb, x, os, rfl, rfl, rfl, rfl, hk, HI⟩ := hrel
      by_cases hlt : k < W.length
      · obtain ⟨wk, hwk⟩ : ∃ wk, W[k]? = some wk := ⟨_, List.getElem?_eq_getElem hlt⟩
        have HK := Lib.hid hwk
        have HLT := Lib.hid hlt
        have hkb : k ≤ 1048576 := by
          have h1 := spl_len (c := 32) l
          rw [← HW.out] at h1
          rw [HSB.out, sB_size] at hs
          omega
        have hcW := HI.out.lists.words.cell hwk
        have hk0 : (0 : Int) ≤ (k : Int) := by omega
        clear hwk
        by_cases hodd : k % 2 = 1
        · obtain ⟨j, rfl⟩ : ∃ j, k = 2 * j + 1 := ⟨k / 2, by omega⟩
          have hm : ((2 * j + 1 : Nat) : Int) % 2 = 1 := by omega
          by_cases hx1 : wk = sepOf true
          · subst hx1
            clear hodd
            have e1 : (sB (sepOf true)).toList = [120, 111, 114] := by rw [sB_toList]; rfl
            obtain rfl | rfl | rfl : x = none ∨ x = some true ∨ x = some false := by rcases x with _ | _ | _ <;> simp
            · have e2 : (sB (sepO none)).toList = [] := by rw [sB_toList]; rfl
              go_wp2
              refine ⟨⟨2 * j + 1 + 1, ga, ca, gb, cb, some true, os, rfl, rfl, rfl, by go_num, HLT.out, Lib.hid ⟨HI.out.upto.sep (by have := HI.out.upto.len; omega) (.inl rfl) HK.out, HI.out.lists⟩⟩, by
                have := HLT.out
                simp only [intOf]; omega⟩
            · have e2 : (sB (sepO (some true))).toList = [120, 111, 114] := by rw [sB_toList]; rfl
              go_wp2
              refine ⟨⟨2 * j + 1 + 1, ga, ca, gb, cb, some true, os, rfl, rfl, rfl, by go_num, HLT.out, Lib.hid ⟨HI.out.upto.sep (by have := HI.out.upto.len; omega) (.inr rfl) HK.out, HI.out.lists⟩⟩, by
                have := HLT.out
                simp only [intOf]; omega⟩
            · have e2 : (sB (sepO (some false))).toList = [111, 114] := by rw [sB_toList]; rfl
              have HR := Lib.hid (rdF_bad HNE.out (fun y' os' _ _ => by rw [← HW.out]; exact HI.out.upto.no_mix (k := j) HK.out (by decide)))
              go_wp2
              go_ret2
              exact ⟨HI.out.lists.below, .inr ⟨HR.out, rfl⟩⟩
          by_cases hx2 : wk = sepOf false
          · subst hx2
            clear hx1 hodd
            have e1 : (sB (sepOf false)).toList = [111, 114] := by rw [sB_toList]; rfl
            obtain rfl | rfl | rfl : x = none ∨ x = some true ∨ x = some false := by rcases x with _ | _ | _ <;> simp
            · have e2 : (sB (sepO none)).toList = [] := by rw [sB_toList]; rfl
              go_wp2
              refine ⟨⟨2 * j + 1 + 1, ga, ca, gb, cb, some false, os, rfl, rfl, rfl, by go_num, HLT.out, Lib.hid ⟨HI.out.upto.sep (by have := HI.out.upto.len; omega) (.inl rfl) HK.out, HI.out.lists⟩⟩, by
                have := HLT.out
                simp only [intOf]; omega⟩
            · have e2 : (sB (sepO (some true))).toList = [120, 111, 114] := by rw [sB_toList]; rfl
              have HR := Lib.hid (rdF_bad HNE.out (fun y' os' _ _ => by rw [← HW.out]; exact HI.out.upto.no_mix (k := j) HK.out (by decide)))
              go_wp2
              go_ret2
              exact ⟨HI.out.lists.below, .inr ⟨HR.out, rfl⟩⟩
            · have e2 : (sB (sepO (some false))).toList = [111, 114] := by rw [sB_toList]; rfl
              go_wp2
              refine ⟨⟨2 * j + 1 + 1, ga, ca, gb, cb, some false, os, rfl, rfl, rfl, by go_num, HLT.out, Lib.hid ⟨HI.out.upto.sep (by have := HI.out.upto.len; omega) (.inr rfl) HK.out, HI.out.lists⟩⟩, by
                have := HLT.out
                simp only [intOf]; omega⟩
          have e1 : ((sB wk).toList == [120, 111, 114]) = false := by rw [sB_toList, beq_eq_false_iff_ne]; exact hx1
          have e2 : ((sB wk).toList == [111, 114]) = false := by rw [sB_toList, beq_eq_false_iff_ne]; exact hx2
          have HR := Lib.hid (rdF_bad HNE.out (fun y' os' _ _ => by rw [← HW.out]; exact no_odd (k := j) HK.out ⟨hx1, hx2⟩))
          clear hx1 hx2 hodd
          go_wp2
          go_ret2
          exact ⟨HI.out.lists.below, .inr ⟨HR.out, rfl⟩⟩
        · obtain ⟨j, rfl⟩ : ∃ j, k = 2 * j := ⟨k / 2, by omega⟩
          have hm : ((2 * j : Nat) : Int) % 2 = 0 := by omega
          have HKL : Hid (wk.length ≤ 1048576) := Lib.hid (by
            have h1 := spl_mem_len (c := 32) (l := l) (w := wk) (by rw [← HW.out]; exact List.mem_of_getElem? HK.out)
            rw [HSB.out, sB_size] at hs
            omega)
          have HSW : Hid (∀ w1, Calls Try.prog 178 #[.string (sB wk), .int .u8 58] w1 fun e w' => ∃ g cc, e = .returned (.slice (some ⟨g, 0, none⟩) (spl 58 wk).length cc) ∧ OwnW w' w1.heap.size (.slice (some ⟨g, 0, none⟩) (spl 58 wk).length cc) (spl 58 wk) ∧ Below w1.heap.size w1 w') :=
            Lib.hid (fun w1 => by have := SsplitAt_n (sB wk) 58 58 rfl w1 (by rw [sB_size]; have := HKL.out; omega); simpa [sB] using this)
          clear hodd
          go_wp2_with fail
          refine (HSW.out _).mono ?_
          rintro e w4 ⟨gp, cp, rfl, oP, b4⟩
          have HI4 := Lib.hid (HI.out.same b4)
          by_cases hP : (spl 58 wk).length = 2
          · obtain ⟨pa, pb, hab⟩ : ∃ pa pb, spl 58 wk = [pa, pb] := by
              match h : spl 58 wk, hP with
              | [pa, pb], _ => exact ⟨pa, pb, rfl⟩
            rw [hab] at oP
            rw [hP]
            have ca0 := oP.cell (i := 0) rfl
            have ca1 := oP.cell (i := 1) rfl
            obtain ⟨hw2, hpa⟩ := spl_two hab
            have hla : pa.length ≤ 1099511627776 := by have := spl_mem_len (c := 58) (l := wk) (w := pa) (by rw [hab]; simp); have := HKL.out; omega
            have hlb : pb.length ≤ 1099511627776 := by have := spl_mem_len (c := 58) (l := wk) (w := pb) (by rw [hab]; simp); have := HKL.out; omega
            have HRS := Lib.hid (fun w1 => SreadSet_n pa w1 hla)
            have HRN := Lib.hid (fun w1 => SreadNumber_n pb w1 hlb)
            have HW2 := Lib.hid hw2
            have HPA := Lib.hid hpa
            clear hab hP hw2 hpa hla hlb
            have HIR := Lib.hid (fun (n : Int) w1 => inRange_any n 0 30 w1)
            by_cases hv0 : setF pa = 0
            · as_aux_lemma =>
              rw [hv0] at HRS
              have HR := Lib.hid (rdF_bad HNE.out (fun y' os' hf _ => by rw [← HW.out]; exact no_even (k := j) HK.out (offer_no HW2.out HPA.out (setF_is pa) (NumW_some pb).choose_spec (.inl hv0)) hf))
              go_wp2_with fail
              refine (HRS.out _).mono ?_
              rintro e w5 ⟨rfl, m5, rfl⟩
              go_wp2
              go_ret2
              exact ⟨below_drewN' HI4.out.lists.below _, .inr ⟨HR.out, rfl⟩⟩
            · as_aux_lemma =>
              rw [setN_pos hv0] at HRS
              have hv8 := (setF_is pa).1
              go_wp2_with fail
              refine (HRS.out _).mono ?_
              rintro e w5 ⟨rfl, m5, rfl⟩
              go_wp2_with fail
              refine (HRN.out _).mono ?_
              rintro e w6 ⟨n, hn, hn0, hn1, rfl, m6, rfl⟩
              have HNI := Lib.hid hn
              clear hn
              by_cases h30 : 0 ≤ n ∧ n ≤ 30
              · have hir := inR_true.2 h30
                have hn2 : 0 ≤ n := h30.1
                have hn3 : n ≤ 30 := h30.2
                clear h30
                go_wp2_with fail
                refine (HIR.out n _).mono ?_
                rintro e w7 ⟨rfl, rfl⟩
                obtain ⟨q, rfl⟩ : ∃ q : Nat, n = (q : Int) := ⟨n.toNat, by omega⟩
                have HOF : Hid (OfferIs wk (setF pa) q) := Lib.hid (by have := offer_yes HW2.out (setF_is pa) HNI.out hv0 hn2 hn3; simpa using this)
                have HU := Lib.hid (HI4.out.upto.offer (by have := HI4.out.upto.len; omega) HK.out HOF.out)
                have hosl : os.length ≤ 1099511627776 := by have := HI4.out.upto.len; omega
                go_wp2_with fail
                refine (HRS.out _).mono ?_
                rintro e w8 ⟨rfl, m8, rfl⟩
                have HL5 := Lib.hid ((HI4.out.lists.same (below_drewN' (Below.refl _ _) (m5 + m6 + m8))).same ((Below.refl _ (w4.drewN (m5 + m6 + m8))).alloc (Nat.le_refl _) (.cells #[.int .i64 (setF pa : Nat)] 3)))
                have ca5 : ((w4.drewN (m5 + m6 + m8)).alloc (.cells #[.int .i64 (setF pa : Nat)] 3)).cell? ⟨gp, 1, none⟩ = some (.string (sB pb)) := (((below_drewN' (Below.refl w4.heap.size w4) (m5 + m6 + m8)).alloc (by simp) _).cell (p := ⟨gp, 1, none⟩) oP.lt.2).trans ca1
                have hgp : wr.heap.size ≤ gp ∧ gp < w4.heap.size := oP.lt
                have hgal := HI.out.lists.sets.lt
                have hgbl := HI.out.lists.prices.lt
                go_wp2_with (at_builtin; refine wpList_append_int rfl _ _ rfl w3.heap.size ga os.length ca (setsO os) (by simp [setsO]) rfl HL5.out.sets w4.heap.size _ rfl (cell_one_new _ _ _ 0 _ rfl) hosl (by have := HL5.out.sets.ge; have := HL5.out.sets.lt; omega) ?_; intro gc cc w9 o9 g9 h9; have HL9 := Lib.hid (HL5.out.addSet g9 o9 h9 hgW2 hgO (Nat.le_of_lt hgO)); have ca9 : w9.cell? ⟨gp, 1, none⟩ = some (.string (sB pb)) := (grown_cell (p := ⟨gp, 1, none⟩) g9 (by show gp < _; have := hgp.2; simp; omega) (by show gp ≠ ga; omega)).trans ca5; clear o9 g9 h9)
                refine (HRN.out _).mono ?_
                rintro e w10 ⟨n2, hn2', _, _, rfl, m10, rfl⟩
                obtain rfl : n2 = (q : Int) := NumW.one HNI.out hn2' (by omega) hn3
                clear hn2'
                have HL10 := Lib.hid ((HL9.out.same (below_drewN' (Below.refl _ _) m10)).same ((Below.refl _ (w9.drewN m10)).alloc (Nat.le_refl _) (.cells #[.int .i64 (q : Nat)] 3)))
                go_wp2_with (at_builtin; refine wpList_append_int rfl _ _ rfl w3.heap.size gb os.length cb (pricesO os) (by simp [pricesO]) rfl HL10.out.prices w9.heap.size _ rfl (cell_one_new _ _ _ 0 _ rfl) hosl (by have := HL10.out.prices.ge; have := HL10.out.prices.lt; omega) ?_; intro gd cd w11 o11 g11 h11; have HL11 := Lib.hid (HL10.out.addPrice g11 o11 h11 hgW2 hgO (Nat.le_of_lt hgO)); clear o11 g11 h11)
                go_roundw
                case rel => exact ⟨2 * j + 1, gc, cc, gd, cd, x, os ++ [(setF pa, q)], by rw [List.length_append]; rfl, by rw [List.length_append]; rfl, rfl, by go_num, HLT.out, Lib.hid ⟨HU.out, by simpa [setsO, pricesO] using HL11.out⟩⟩
                case measure => have := HLT.out; simp only [intOf]; omega
              · have hir := inR_false.2 h30
                have HR := Lib.hid (rdF_bad HNE.out (fun y' os' hf _ => by rw [← HW.out]; exact no_even (k := j) HK.out (offer_no HW2.out HPA.out (setF_is pa) HNI.out (.inr h30)) hf))
                clear h30
                go_wp2_with fail
                refine (HIR.out n _).mono ?_
                rintro e w7 ⟨rfl, rfl⟩
                go_wp2
                go_ret2
                exact ⟨below_drewN' HI4.out.lists.below _, .inr ⟨HR.out, rfl⟩⟩
          · obtain ⟨q, hq⟩ : ∃ q, (spl 58 wk).length = q := ⟨_, rfl⟩
            have hl2 : ((q : Int) != 2) = true := by rw [bne_iff_ne]; omega
            have HR := Lib.hid (rdF_bad HNE.out (fun y' os' hf _ => by rw [← HW.out]; exact no_even (k := j) HK.out (spl_no hP) hf))
            clear hP
            rw [hq]
            clear hq oP
            go_wp2
            go_ret2
            exact ⟨HI4.out.lists.below, .inr ⟨HR.out, rfl⟩⟩
      · obtain rfl : k = W.length := by omega
        clear hlt
        by_cases hev : W.length % 2 = 0
        · as_aux_lemma =>
          have hm : (W.length : Int) % 2 = 0 := by omega
          have HR := Lib.hid (rdF_bad HNE.out (fun y' os' _ hne => by rw [← HW.out]; exact no_len hev hne))
          clear hev
          go_wp2
          go_ret2
          exact ⟨HI.out.lists.below, .inr ⟨HR.out, rfl⟩⟩
        have hm : (W.length : Int) % 2 = 1 := by omega
        have HSY : Hid (Says l (x.getD true) os) := Lib.hid (by
          have h1 := HI.out.upto
          rw [HW.out] at h1 hev
          exact h1.all (by omega))
        by_cases h7 : 7 < os.length
        · as_aux_lemma =>
          have hl7 : decide (7 < (os.length : Int)) = true := by simp; omega
          have HR := Lib.hid (rdF_none HNE.out (fun y' os' hs' => by rw [← (HSY.out.one hs').2]; exact h7))
          clear hev h7
          go_wp2
          go_ret2
          exact ⟨HI.out.lists.below, .inr ⟨HR.out, rfl⟩⟩
        have hl7 : decide (7 < (os.length : Int)) = false := by simp; omega
        have hl7' : os.length ≤ 7 := by omega
        have HR := Lib.hid (rdF_says HSY.out hl7')
        clear hev h7
        have hx : (sepO x = [111, 114] ∧ x.getD true = false) ∨ (sepO x ≠ [111, 114] ∧ x.getD true = true) := by rcases x with _ | _ | _ <;> simp [sepO, sepOf]
        rcases hx with ⟨hxo, hxy⟩ | ⟨hxo, hxy⟩
        · as_aux_lemma =>
          have e1 : (sB (sepO x)).toList = [111, 114] := by rw [sB_toList, hxo]
          rw [hxy] at HSY HR
          have HT8 : Hid (∀ s, s < 8 → (tabOf false os)[s]? = some (sumF os s)) := Lib.hid (fun s hs => by
            rw [T_at (by rw [tabOf_len]; exact hs)]; exact congrArg some (tor_at HSY.out.1 hs))
          have HTL : Hid ((tabOf false os).length = 8) := Lib.hid (tabOf_len _ _)
          have HF := Lib.hid HSY.out.1
          have hpos : (0 : Int) < (os.length : Int) := by have := HSY.out.2.1; have : os.length ≠ 0 := fun e => this (List.eq_nil_of_length_eq_zero e); omega
          obtain ⟨tab, htab⟩ : ∃ tab, tab = tabOf false os := ⟨_, rfl⟩
          rw [← htab] at HR HT8 HTL
          have HT0 : Hid (TabAt w w3.heap.size ga ca gb cb os (filled tab 0) wr) := Lib.hid (by rw [filled_zero, HTL.out]; exact ⟨HI.out.lists.out, HI.out.lists.sets, HI.out.lists.prices, HI.out.lists.below⟩)
          clear htab hxo hxy HI HSY
          go_wp2_with fail
          clear hm
          go_loopw [11, 12] (fun xv _ wr => ∃ t, xv = .int .i64 (t : Nat) ∧ t ≤ 8 ∧ Hid (TabAt w w3.heap.size ga ca gb cb os (filled tab t) wr)) (fun i _ _ => 8 - (intOf i).toNat)
          case atStart => exact ⟨0, rfl, by omega, HT0⟩
          case round =>
            obtain ⟨t, rfl, ht, HT⟩ := hrel
            by_cases hlt : t < 8
            · have HSF : Hid (Calls Try.prog 181 #[.slice (some ⟨ga, 0, none⟩) os.length ca, .slice (some ⟨gb, 0, none⟩) os.length cb, .int .i64 (t : Int)] wr fun e w' => e = .returned (.int .i64 (sumF os t)) ∧ ∃ m, w' = wr.drewN m) :=
                Lib.hid (SsumFrom_any os.length os (some ⟨ga, 0, none⟩) (some ⟨gb, 0, none⟩) ca cb t wr rfl HF.out hl7' hlt HT.out.sets.rd HT.out.prices.rd (by have := HT.out.sets.cap.1; simpa [setsO] using this) (by have := HT.out.prices.cap.1; simpa [pricesO] using this))
              have hcell := HT.out.out.cell (filled_rest (by rw [HTL.out]; exact hlt))
              have hfree := HT.out.out.free t
              have hc2 : ∀ n, (wr.drewN n).cell? ⟨w.heap.size, t, none⟩ = some (.int .i64 0) := fun n => by simpa using hcell
              have hf2 : ∀ n, (wr.drewN n).frozen? ⟨w.heap.size, t, none⟩ = false := fun n => by simpa using hfree
              have ht0 : (0 : Int) ≤ (t : Int) := by omega
              have ht8 : (t : Int) < 8 := by omega
              have HST : Hid (∀ n, TabAt w w3.heap.size ga ca gb cb os (filled tab (t + 1)) ((wr.drewN n).setCell ⟨w.heap.size, t, none⟩ (.int .i64 (sumF os t)))) := Lib.hid (fun n => by
                rw [← filled_set tab t _ (HT8.out t hlt)]; exact (HT.out.drewN n).set_ hgO t _)
              clear hlt HT hcell hfree
              go_wp2_with fail
              go_loopw [12] (fun iv wr' => iv = .int .i64 0 ∧ wr' = wr) (fun _ _ => 0)
              case atStart => exact ⟨rfl, rfl⟩
              case round =>
                obtain ⟨rfl, rfl⟩ := hrel
                go_wp2_with fail
                refine HSF.out.mono ?_
                rintro e w5 ⟨rfl, m, rfl⟩
                have hc3 := hc2 m
                have hf3 := hf2 m
                clear hc2 hf2
                go_wp2
                go_roundw
                case rel => exact ⟨t + 1, by go_num, by omega, Lib.hid (HST.out m)⟩
                case measure => simp only [intOf]; omega
            · obtain rfl : t = 8 := by omega
              have HTE : Hid (TabAt w w3.heap.size ga ca gb cb os tab wr) := Lib.hid (by have := HT.out; rw [← HTL.out, filled_all] at this; exact this)
              have HV := Lib.hid (fun n => SvalidTable_any (some ⟨w.heap.size, 0, none⟩) 8 tab (wr.drewN n) (HTE.out.out.drewN n).rd (by rw [HTL.out]; omega))
              rw [HTL.out] at HV
              clear hlt HT
              go_wp2_with fail
              refine (HV.out 0).mono ?_
              rintro e w5 ⟨rfl, m, rfl⟩
              go_wp2
              go_ret2
              exact ⟨below_drewN' HTE.out.below m, .inl ⟨tab, w.heap.size, 8, HR.out, rfl, HTE.out.out.drewN m⟩⟩
        · as_aux_lemma =>
          have e1 : ((sB (sepO x)).toList == [111, 114]) = false := by rw [sB_toList, beq_eq_false_iff_ne]; exact hxo
          rw [hxy] at HSY HR
          have HT8 : Hid (∀ s, s < 8 → (tabOf true os)[s]? = some (xval os s)) := Lib.hid (fun s hs => by
            rw [T_at (by rw [tabOf_len]; exact hs)]; exact congrArg some (txor_at hs _ os rfl))
          have HTL : Hid ((tabOf true os).length = 8) := Lib.hid (tabOf_len _ _)
          have HF := Lib.hid HSY.out.1
          have hpos : (0 : Int) < (os.length : Int) := by have := HSY.out.2.1; have : os.length ≠ 0 := fun e => this (List.eq_nil_of_length_eq_zero e); omega
          obtain ⟨tab, htab⟩ : ∃ tab, tab = tabOf true os := ⟨_, rfl⟩
          rw [← htab] at HR HT8 HTL
          have HT0 : Hid (TabAt w w3.heap.size ga ca gb cb os (filled tab 0) wr) := Lib.hid (by rw [filled_zero, HTL.out]; exact ⟨HI.out.lists.out, HI.out.lists.sets, HI.out.lists.prices, HI.out.lists.below⟩)
          clear htab hxo hxy HI HSY
          go_wp2_with fail
          clear hm
          go_loopw [11, 12] (fun xv _ wr => ∃ t, xv = .int .i64 (t : Nat) ∧ t ≤ 8 ∧ Hid (TabAt w w3.heap.size ga ca gb cb os (filled tab t) wr)) (fun i _ _ => 8 - (intOf i).toNat)
          case atStart => exact ⟨0, rfl, by omega, HT0⟩
          case round =>
            obtain ⟨t, rfl, ht, HT⟩ := hrel
            by_cases hlt : t < 8
            · have ht8 : (t : Int) < 8 := by omega
              have ht0 : (0 : Int) ≤ (t : Int) := by omega
              have HIN : Hid (TabAt w w3.heap.size ga ca gb cb os ((filled tab t).set t (xval (os.take 0) t)) wr) := Lib.hid (by
                rw [show xval (os.take 0) t = 0 from rfl, filled_same (by rw [HTL.out]; exact hlt)]; exact HT.out)
              have HSET : Hid ((filled tab t).set t (xval os t) = filled tab (t + 1)) := Lib.hid (filled_set tab t _ (HT8.out t hlt))
              have HFL : Hid (t < (filled tab t).length) := Lib.hid (by rw [filled_len _ _ (by rw [HTL.out]; omega), HTL.out]; exact hlt)
              have htt : t < 8 := hlt
              clear hlt HT
              go_wp2_with fail
              go_loopw [12] (fun iv wr' => ∃ i, iv = .int .i64 (i : Nat) ∧ i ≤ os.length ∧ Hid (TabAt w w3.heap.size ga ca gb cb os ((filled tab t).set t (xval (os.take i) t)) wr')) (fun iv _ => os.length - (intOf iv).toNat)
              case atStart => exact ⟨0, rfl, by omega, HIN⟩
              case round =>
                obtain ⟨i, rfl, hi, HT⟩ := hrel
                by_cases hil : i < os.length
                · obtain ⟨o, ho⟩ : ∃ o, os[i]? = some o := ⟨os[i], List.getElem?_eq_getElem hil⟩
                  obtain ⟨ho1, ho8, ho30⟩ := HF.out o (List.mem_of_getElem? ho)
                  have hc1 := HT.out.sets.cell (i := i) (x := ((o.1 : Nat) : Int)) (by simp [setsO, ho])
                  have hc2 := HT.out.prices.cell (i := i) (x := ((o.2 : Nat) : Int)) (by simp [pricesO, ho])
                  have HTK := Lib.hid (xval_take ho t)
                  have ha := and_nat ho8 htt
                  rw [Nat.and_comm] at ha
                  have hi0 : (0 : Int) ≤ (i : Int) := by omega
                  by_cases hin : t &&& o.1 = o.1
                  · rw [hin] at ha
                    obtain ⟨V, hV⟩ : ∃ V, V = xval (os.take i) t := ⟨_, rfl⟩
                    have hcell := HT.out.out.cell (i := t) (x := V) (by rw [List.getElem?_set_self HFL.out, hV])
                    have hfree := HT.out.out.free t
                    have HST : Hid (∀ n, TabAt w w3.heap.size ga ca gb cb os ((filled tab t).set t (xval (os.take (i + 1)) t)) ((wr.drewN n).setCell ⟨w.heap.size, t, none⟩ (.int .i64 (if V < (o.2 : Int) then (o.2 : Int) else V)))) := Lib.hid (fun n => by
                      have h9 := (HT.out.drewN n).set_ hgO t (if V < (o.2 : Int) then (o.2 : Int) else V)
                      rw [List.set_set] at h9
                      rw [HTK.out, if_pos hin, ← hV, show max V (o.2 : Int) = (if V < (o.2 : Int) then (o.2 : Int) else V) by split <;> omega]
                      exact h9)
                    have hil2 : i + 1 ≤ os.length := hil
                    clear hin ho hil HTK hV
                    go_wp2_with fail
                    go_region
                    go_wp2_with fail
                    go_region
                    go_wp2
                    go_roundw
                    case rel => exact ⟨i + 1, by go_num, hil2, Lib.hid (HST.out 2)⟩
                    case measure => simp only [intOf]; omega
                  · have hne : (((t &&& o.1 : Nat) : Int) == ((o.1 : Nat) : Int)) = false := by rw [beq_eq_false_iff_ne]; omega
                    have HTN : Hid (∀ n, TabAt w w3.heap.size ga ca gb cb os ((filled tab t).set t (xval (os.take (i + 1)) t)) (wr.drewN n)) := Lib.hid (fun n => by rw [HTK.out, if_neg hin]; exact HT.out.drewN n)
                    have hil2 : i + 1 ≤ os.length := hil
                    clear hin ho hil HTK
                    go_wp2_with fail
                    go_region
                    go_wp2
                    go_roundw
                    case rel => exact ⟨i + 1, by go_num, hil2, Lib.hid (HTN.out 1)⟩
                    case measure => simp only [intOf]; omega
                · obtain rfl : i = os.length := by omega
                  have HTE : Hid (TabAt w w3.heap.size ga ca gb cb os (filled tab (t + 1)) wr) := Lib.hid (by have := HT.out; rw [List.take_length, HSET.out] at this; exact this)
                  clear hil HT
                  go_wp2
                  go_roundw
                  case rel => exact ⟨t + 1, by go_num, by omega, HTE⟩
                  case measure => simp only [intOf]; omega
            · obtain rfl : t = 8 := by omega
              have HTE : Hid (TabAt w w3.heap.size ga ca gb cb os tab wr) := Lib.hid (by have := HT.out; rw [← HTL.out, filled_all] at this; exact this)
              have HV := Lib.hid (fun n => SvalidTable_any (some ⟨w.heap.size, 0, none⟩) 8 tab (wr.drewN n) (HTE.out.out.drewN n).rd (by rw [HTL.out]; omega))
              rw [HTL.out] at HV
              clear hlt HT
              go_wp2_with fail
              refine (HV.out 0).mono ?_
              rintro e w5 ⟨rfl, m, rfl⟩
              go_wp2
              go_ret2
              exact ⟨below_drewN' HTE.out.below m, .inl ⟨tab, w.heap.size, 8, HR.out, rfl, HTE.out.out.drewN m⟩⟩
  · have hl0 : l = [] := by
      rw [HSB.out] at hem
      simpa [sB] using hem
    subst hl0
    go_enter Try.func157, Try.ntmps157
    go_wp2_with (first
      | (go_at_call 113; refine (HP.out _).mono ?_; rintro e w1 ⟨rfl, rfl⟩)
      | (at_make; refine wpList_make_ints rfl _ _ rfl w.heap.size 8 rfl rfl (by omega) (by simp) ?_; intro w2 ho hb))
    go_ret2
    exact ⟨hb, .inl ⟨List.replicate 8 0, w.heap.size, 8, rdF_nil, by rw [show vt (List.replicate 8 (0 : Int)) = true from vt_true (txor_vt (os := []) (by intro o ho; simp at ho))]; rfl, ho⟩⟩

end Go.Proofs.Ytpildecpabeanaa
