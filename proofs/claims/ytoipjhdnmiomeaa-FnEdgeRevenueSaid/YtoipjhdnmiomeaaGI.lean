/-
  Chapter 2: sums of fractions over all values, and regions whose ways meet.
-/
import Derived.Test.YtoipjhdnmiomeaaGH
namespace Go.Proofs.Ytoipjhdnmiomeaa
open Go.RowKit

/-- Ways that meet: what is left is shown once, of whatever world behind W. -/
theorem join {W : World} {G : Prop} {P2 : World → Prop} (h1 : (∀ w2, Below W.heap.size W w2 → P2 w2) → G) (h2 : ∀ w2, Below W.heap.size W w2 → P2 w2) : G := h1 h2
theorem wpAny_listed {P : Program} {md : Region.Mode} {ops : Array Oper} {Q : Exit → Act → World → Prop} {k : Nat} {listed listed' : Array Bool} {a : Act} {w : World} (h : listed' = listed) (hh : wpAny P md ops Q k listed' a w) : wpAny P md ops Q k listed a w := h ▸ hh

theorem fr_add {p q : Rat} {a b c d n m : Int} (hp : FrIs p a b) (hq : FrIs q c d) (h : FrIs (p + q) n m) : FrIs (fq (a * d + c * b) (b * d)) n m := by
  obtain ⟨rfl, rfl⟩ := hp
  obtain ⟨rfl, rfl⟩ := hq
  rw [fq_add]
  exact h
theorem fr_mul {p q : Rat} {a b c d n m : Int} (hp : FrIs p a b) (hq : FrIs q c d) (h : FrIs (p * q) n m) : FrIs (fq (a * c) (b * d)) n m := by
  obtain ⟨rfl, rfl⟩ := hp
  obtain ⟨rfl, rfl⟩ := hq
  rw [fq_mul]
  exact h
theorem fr_times {p : Rat} {k a b n m : Int} (hp : FrIs p a b) (h : FrIs ((k : Rat) * p) n m) : FrIs (fq (a * k) b) n m := by
  obtain ⟨rfl, rfl⟩ := hp
  rw [fq_times, Rat.mul_comm]
  exact h

/-- A term of fractions, and the sum of them all. -/
def termQ (xs : List Int) (g : List Int → Rat) (vs : List Int) : Rat := (waysF xs vs : Rat) * g vs
def sumV (xs : List Int) (g : List Int → Rat) (n : Nat) : Rat := sumQ (restOf (termQ xs g) (xs.length - 1) (some (List.replicate n 0)))
/-- What the terms lie over. -/
def TermsOk (xs : List Int) (g : List Int → Rat) (n : Nat) (D : Int) : Prop := 1 ≤ D ∧ D ≤ 46656 ∧ ∀ vs, Fit (xs.length - 1) n vs → Sc D 2176782336 (termQ xs g vs)
/-- What has been summed, of so many. -/
def QTo (xs : List Int) (g : List Int → Rat) (n : Nat) (D : Int) (S : Rat) (k : Nat) (s : Option (List Int)) : Prop :=
  sumV xs g n = S + sumQ (restOf (termQ xs g) (xs.length - 1) s) ∧ Sc D (2176782336 * (k : Int)) S ∧ k ≤ 1000 ∧ CountL (xs.length - 1) k s
theorem QTo.start (xs : List Int) (g : List Int → Rat) (D : Int) {n : Nat} (hn : n ≤ 3) (hl : xs.length ≤ 6) : QTo xs g n D 0 0 (some (List.replicate n 0)) := by
  refine ⟨by unfold sumV; grind, Sc.zero, by omega, ?_⟩
  have := left_1000 (n := n) (top := xs.length - 1) hn (by omega)
  show 0 + _ ≤ 1000
  omega
theorem QTo.step {xs : List Int} {g : List Int → Rat} {n : Nat} {D : Int} {S S' : Rat} {k : Nat} {ys : List Int} (h : QTo xs g n D S k (some ys)) (ht : TermsOk xs g n D) (hf : Fit (xs.length - 1) n ys) (hS : S' = S + termQ xs g ys) :
    QTo xs g n D S' (k + 1) (nextF ys (xs.length - 1 : Nat)) := by
  obtain ⟨h1, h2, h3, h4⟩ := h
  have h5 : k + (leftF ys (xs.length - 1 : Nat) + 1) ≤ 1000 := h4
  rw [restOf_next hf, sumQ] at h1
  refine ⟨by rw [h1, hS]; grind, ?_, by omega, h4.next hf⟩
  rw [hS]
  refine (h2.add (ht.2.2 ys hf)).mono ?_
  have : ((k + 1 : Nat) : Int) = (k : Int) + 1 := by omega
  rw [this]
  omega
theorem QTo.bd {xs : List Int} {g : List Int → Rat} {n : Nat} {D : Int} {S : Rat} {k : Nat} {s : Option (List Int)} {x y : Int} (h : QTo xs g n D S k s) (ht : TermsOk xs g n D) (hf : FrIs S x y) : -2176782336000 ≤ x ∧ x ≤ 2176782336000 ∧ 1 ≤ y ∧ y ≤ 46656 := by
  obtain ⟨h1, h2, h3, _⟩ := h
  have := h2.bd ht.1 hf
  have := ht.2.1
  omega
theorem term_bd {xs : List Int} {g : List Int → Rat} {n : Nat} {D : Int} {vs : List Int} {x y : Int} (ht : TermsOk xs g n D) (hv : Fit (xs.length - 1) n vs) (hf : FrIs (termQ xs g vs) x y) : -2176782336 ≤ x ∧ x ≤ 2176782336 ∧ 1 ≤ y ∧ y ≤ 46656 := by
  have := (ht.2.2 vs hv).bd ht.1 hf
  have := ht.2.1
  omega
theorem QTo.done {xs : List Int} {g : List Int → Rat} {n : Nat} {D : Int} {S : Rat} {k : Nat} (h : QTo xs g n D S k none) : S = sumV xs g n := by
  rw [h.1]
  simp only [restOf, sumQ]
  grind

/-- The virtual value of who has the thing. -/
def virtG (xs : List Int) (r : Int) (vs : List Int) : Rat := ofWin (fun v => virtQ xs v.toNat) vs r
/-- The greatest ironed value, or 0. -/
def ironG (xs : List Int) (vs : List Int) : Rat := topR (fun v => ironAt xs v.toNat) vs

theorem virt_ok {xs : List Int} {n : Nat} {r : Int} (hv : vW xs = true) (hn1 : 1 ≤ n) (hn : n ≤ 3) (hr : 0 ≤ r) : TermsOk xs (virtG xs r) n 60 := by
  obtain ⟨l1, l2⟩ := vW_le hv
  refine ⟨by decide, by decide, fun vs hf => ?_⟩
  have hl := hf.1
  obtain ⟨w0, w1⟩ := ways_bd (vW_valid hv) vs (hf.inV l1) (by omega)
  have h0 : Sc 60 2160 (virtG xs r vs) := by
    unfold virtG
    rcases at_cases (vs := vs) (by omega) hr with ⟨a, x, _, hx, _, _, hg⟩ | ⟨_, _, hg⟩
    · obtain ⟨v, rfl, hvl⟩ := (hf.inV l1).at_ hx
      rw [hg]
      simpa using virt_sc (vW_valid hv) hvl
    · rw [hg]
      exact Sc.zero.mono (by decide)
  exact (h0.mul (k := waysF xs vs) (K := 216) (by omega) w1 (by decide)).mono (by decide)

theorem top_sc {xs : List Int} {D : Int} (hD : 1 ≤ D) (h : ∀ v, v < xs.length → Sc D (216 * D) (ironAt xs v)) : ∀ vs, InV xs vs → Sc D (216 * D) (ironG xs vs)
  | [], _ => Sc.zero.mono (by omega)
  | v :: vs, hv => by
    have h1 := top_sc hD h vs (fun u hu => hv u (List.mem_cons_of_mem _ hu))
    have h2 := hv v (List.mem_cons_self ..)
    have h3 := h v.toNat (by omega)
    unfold ironG at h1 ⊢
    rw [topR]
    rcases Rat.le_total (a := ironAt xs v.toNat) (b := topR (fun v => ironAt xs v.toNat) vs) with c | c
    · rw [show max (ironAt xs v.toNat) (topR (fun v => ironAt xs v.toNat) vs) = topR (fun v => ironAt xs v.toNat) vs by grind]; exact h1
    · rw [show max (ironAt xs v.toNat) (topR (fun v => ironAt xs v.toNat) vs) = ironAt xs v.toNat by grind]; exact h3
theorem iron_ok {xs : List Int} {n : Nat} (hv : vW xs = true) (hn : n ≤ 3) : ∃ D, TermsOk xs (ironG xs) n D := by
  obtain ⟨l1, l2⟩ := vW_le hv
  obtain ⟨D, d1, d2, hD⟩ := iron_sc (vW_valid hv)
  refine ⟨D, d1, d2, fun vs hf => ?_⟩
  have hl := hf.1
  obtain ⟨w0, w1⟩ := ways_bd (vW_valid hv) vs (hf.inV l1) (by omega)
  refine ((top_sc d1 hD vs (hf.inV l1)).mul (k := waysF xs vs) (K := 216) (by omega) w1 (by omega)).mono ?_
  omega
end Go.Proofs.Ytoipjhdnmiomeaa

/-
  Chapter 2, the model: the contract of VirtualRevenue.
-/
namespace Go.Proofs.Ytoipjhdnmiomeaa
open Go.RowKit

theorem own_ne {w : World} {C g c : Nat} {ys : List Int} (h : Own w (C + 1) (some ⟨g, 0, none⟩) c ys) : Value.ownBlock (.slice (some ⟨g, 0, none⟩) ys.length c) ≠ some C := by
  intro e
  have := h.ge
  simp [Value.ownBlock] at e
  omega

set_option maxRecDepth 100000 in
set_option maxHeartbeats 8000000 in
theorem SVirtualRevenue_yes (b off c : Nat) (xs : List Int) (n : Nat) (r : Int) (N M : Int) (w : World) (h : Rd w (some ⟨b, off, none⟩) c xs) (hv : vW xs = true) (hn1 : 1 ≤ n) (hn : n ≤ 3) (hr0 : 0 ≤ r) (hr1 : r ≤ 6) (hq : FrIs (sumV xs (virtG xs r) n) N M) :
    Calls Try.prog 38 #[.slice (some ⟨b, off, none⟩) xs.length c, .int .i64 n, .int .i64 r] w fun e w' => e = .returned (.tuple #[frV N M, .bool true]) ∧ Below w.heap.size w w' := by
  obtain ⟨l1, l2⟩ := vW_le hv
  have hl : xs.length ≤ 1048576 := by omega
  obtain ⟨top, ht⟩ : ∃ top, top = xs.length - 1 := ⟨_, rfl⟩
  have HC := Lib.hid (show crowdB xs n r = true by
    unfold crowdB
    rw [hv, inR_true.2 ⟨by omega, by omega⟩, inR_true.2 ⟨by omega, by omega⟩]; rfl)
  have HV := Lib.hid hv
  have HT := Lib.hid ht
  have HOK := Lib.hid (virt_ok hv hn1 hn hr0)
  have HQ := Lib.hid hq
  have ht5 : top ≤ 5 := by omega
  have htx : (xs.length : Int) - 1 = (top : Int) := by omega
  have htw : IntKind.i64.wrap (top : Int) = (top : Int) := IntWalk.i64_in _ (by omega)
  clear hv ht hq
  have HSV := Lib.hid (fun (v : Nat) (hlt : v < xs.length) n d hq w h => Svirtual_any (some ⟨b, off, none⟩) c xs v n d w h HV.out hlt hq)
  have HN1 := Lib.hid hn1
  have HH := Lib.hid h
  have h' := h.below (below_al w (.cells #[.int .i64 0, .int .i64 0] 30))
  clear hn1 h
  go_enter Try.func38, Try.ntmps38
  go_wp2_with fail
  refine (validCrowd_any _ _ _ _ _ _ h' hl).mono ?_
  rw [HC.out]
  rintro e w1 ⟨rfl, rfl⟩
  go_wp2_with fail
  refine (Sfrac_any 0 1 0 1 _ (by rw [fq_one]; exact FrIs.int 0) (by decide) (by omega) (by omega) (by decide)).mono ?_
  rintro e w2 ⟨rfl, hb2⟩
  have hk := PairAt.below (PairAt.new (w := w)) hb2
  have hb02 := below_up (below_al w _) hb2
  have hwl := hk.lt
  unfold frV
  go_wp2_with (at_make; refine wpList_make_ints rfl _ _ rfl (w2.heap.size + 1) n rfl rfl (by omega) (by simp) ?_; intro w0 ho hb)
  have hB0 : Below w.heap.size w w0 := (below_up hb02 (below_al w2 _)).trans (hb.mono (by have := hb02.size; simp; omega))
  have hb' : Below (w2.heap.size + 1) (w2.alloc (.cells #[.int .i64 0, .int .i64 1] 30)) w0 := hb.mono (by simp)
  have hPR0 : PairAt w0 w.heap.size 0 0 := (hb'.block _ (by omega)).trans (hk.old _)
  have hPC0 : PairAt w0 w2.heap.size 0 1 := (hb'.block _ (by omega)).trans PairAt.new
  have hCl : w.heap.size < w2.heap.size := hwl
  clear hk hb2 hb02 hwl hb hb' h'
  rw [World.size_alloc] at ho
  generalize w2.heap.size = C at *
  go_loopw [9] (fun bd wr => ∃ (x y : Int) (S : Rat) (k : Nat), Below w.heap.size w wr ∧ PairAt wr w.heap.size 0 0 ∧ PairAt wr C x y ∧ Hid (FrIs S x y) ∧
      ((∃ g cg ys, bd = .slice (some ⟨g, 0, none⟩) ys.length cg ∧ Own wr (C + 1) (some ⟨g, 0, none⟩) cg ys ∧ Hid (Fit top n ys) ∧ Hid (QTo xs (virtG xs r) n 60 S k (some ys))) ∨
       (bd = .slice none 0 0 ∧ Hid (QTo xs (virtG xs r) n 60 S k none))))
    (fun bd wr => roundsLeft top wr bd)
  case atStart =>
    exact ⟨0, 1, 0, 0, hB0, hPR0, hPC0, Lib.hid (FrIs.int 0), .inl ⟨_, _, List.replicate n 0, by simp, ho, Lib.hid (Fit.zero top n), Lib.hid (QTo.start xs _ _ hn l2)⟩⟩
  case round =>
    obtain ⟨x, y, S, k, hb, hPR, hPC, HS, ⟨g, cg, ys, rfl, hO, HF, HE⟩ | ⟨rfl, HE⟩⟩ := hrel
    · have hn1 := HN1.out
      have hyl := HF.out.1
      have hy1 : 1 ≤ ys.length := by omega
      have hy2 : ys.length ≤ 1048576 := by omega
      have hy3 : ys.length ≤ 3 := by omega
      have hpos : (0 : Int) < ys.length := by omega
      have HL := Lib.hid (roundsLeft_own (top := top) hO hy1)
      have hcm := HH.out.below hb
      have HF' : Hid (Fit (xs.length - 1) n ys) := Lib.hid (by rw [← HT.out]; exact HF.out)
      have HIV := Lib.hid (HF'.out.inV l1)
      obtain ⟨w0', w1'⟩ := ways_bd (vW_valid HV.out) ys HIV.out hy3
      obtain ⟨q, hq⟩ : ∃ q, q = atOf ys r := ⟨_, rfl⟩
      have HQQ := Lib.hid hq
      have HW := Lib.hid (fun w h h2 => weightOf_any b off c xs (some ⟨g, 0, none⟩) cg ys w h h2 (vW_valid HV.out) HIV.out hy3)
      have HX := Lib.hid (fun w (h : Rd w (some ⟨g, 0, none⟩) cg ys) => next_any (some ⟨g, 0, none⟩) cg ys top w h hy2 (by omega) (by omega) HF.out.2)
      have FIN := Lib.hid (fun S' (hS' : S' = S + termQ xs (virtG xs r) ys) => show QTo xs (virtG xs r) n 60 S' (k + 1) (nextF ys (top : Nat)) by
        have := HE.out.step HOK.out HF'.out hS'
        rw [← HT.out] at this
        exact this)
      obtain ⟨s0, s1, s2, s3⟩ := HE.out.bd HOK.out HS.out
      clear hyl hn1
      rcases at_cases (vs := ys) hy1 hr0 with ⟨a, u, ha, hu, _, _, hg⟩ | ⟨ha, _, hg⟩
      · have hq2 : q = (a : Int) := by rw [hq, ha]
        have hal := (List.getElem?_eq_some_iff.1 hu).1
        obtain ⟨v, rfl, hvl⟩ := HIV.out.at_ hu
        have hgv : virtG xs r ys = virtQ xs v := by unfold virtG; rw [hg]; simp
        obtain ⟨W, hWW⟩ : ∃ W, W = waysF xs ys := ⟨_, rfl⟩
        rw [← hWW] at w0' w1' HW
        obtain ⟨vn, hvn⟩ : ∃ n, n = (virtQ xs v).num := ⟨_, rfl⟩
        obtain ⟨vd, hvd⟩ : ∃ d, d = ((virtQ xs v).den : Int) := ⟨_, rfl⟩
        have hvq : FrIs (virtQ xs v) vn vd := ⟨hvn, hvd⟩
        obtain ⟨v1, v2, v3, v4⟩ := virt_bd HV.out hvl hvq
        have htq : termQ xs (virtG xs r) ys = (W : Rat) * virtQ xs v := by unfold termQ; rw [hgv, hWW]
        obtain ⟨tn, htn⟩ : ∃ n, n = ((W : Rat) * virtQ xs v).num := ⟨_, rfl⟩
        obtain ⟨td, htd⟩ : ∃ d, d = (((W : Rat) * virtQ xs v).den : Int) := ⟨_, rfl⟩
        have htt : FrIs ((W : Rat) * virtQ xs v) tn td := ⟨htn, htd⟩
        obtain ⟨t1, t2, t3, t4⟩ := term_bd HOK.out HF'.out (by rw [htq]; exact htt)
        obtain ⟨n', hn'⟩ : ∃ n, n = (S + (W : Rat) * virtQ xs v).num := ⟨_, rfl⟩
        obtain ⟨d', hd'⟩ : ∃ d, d = ((S + (W : Rat) * virtQ xs v).den : Int) := ⟨_, rfl⟩
        have hss : FrIs (S + (W : Rat) * virtQ xs v) n' d' := ⟨hn', hd'⟩
        have HSS := Lib.hid hss
        have HK := Lib.hid (show FrIs (fq W 1) W 1 by rw [fq_one]; exact FrIs.int _)
        have HTM := Lib.hid (fr_mul (FrIs.int W) hvq htt)
        have HPL := Lib.hid (fr_add HS.out htt hss)
        have HVT := Lib.hid (HSV.out v hvl vn vd hvq)
        have FN := Lib.hid (FIN.out _ (by rw [htq]))
        obtain ⟨p1, p2⟩ := mul_bd s0 s1 t3 t4 (by omega)
        obtain ⟨p3, p4⟩ := mul_bd t1 t2 s2 s3 (by omega)
        obtain ⟨p5, p6⟩ := mul_bd (show -46656 ≤ y by omega) s3 t3 t4 (by omega)
        have p7 := Int.mul_le_mul s2 t3 (by omega) (by omega)
        obtain ⟨m1, m2⟩ := mul_bd v1 v2 w0' w1' (by omega)
        rw [Int.mul_comm vn W] at m1 m2
        rw [hq2] at HQQ
        have k9 := hO.cell hu
        have hgl := hO.lt
        have hge : decide ((0 : Int) ≤ (a : Int)) = true := by simp
        have hal2 : (a : Int) < (ys.length : Int) := by omega
        clear hu ha hq hq2 hg hgv hWW hvn hvd hvq htq htn htd htt hn' hd' hss
        go_wp2_with fail
        refine (sale_is _ 1 _ _ ys r _ HQQ.out first_is hO.rd hy1 hy2).mono ?_
        rintro e w3 ⟨g3, c3, rfl, _, b3⟩
        have hO3 := hO.below b3
        have k93 := (b3.cell (p := ⟨g, a, none⟩) hgl).trans k9
        have hPR3 := hPR.below b3
        have hPC3 := hPC.below b3
        have hcm3 := hcm.below b3
        have hb3 := below_up hb b3
        have hgl3 := hO3.lt
        clear hO k9 hPR hPC hcm hgl hb b3
        go_wp2_with fail
        refine wp_region_any (by kernel_rfl) ?_
        refine wpAny_take (i := 1) (v := _) rfl (by kernel_rfl) (by kernel_rfl) (by kernel_rfl) (fun _ _ _ h => h) (Or.inl ⟨by rfl, fun w => by go_simp; rfl⟩) ?_
        refine wpAny_take (i := 2) (v := _) rfl (by kernel_rfl) (by kernel_rfl) (by kernel_rfl) (fun _ _ _ h => h) (Or.inl ⟨by rfl, fun w => by go_simp; rfl⟩) ?_
        refine wpAny_take (i := 5) (v := _) rfl (by kernel_rfl) (by kernel_rfl) (by kernel_rfl) (fun _ _ _ h => h) (Or.inl ⟨by rfl, fun w => by go_simp; rfl⟩) ?_
        refine wpAny_take (i := 6) (v := _) rfl (by kernel_rfl) (by kernel_rfl) (by kernel_rfl) (fun _ _ _ h => h) (Or.inl ⟨by rfl, fun w => by go_simp; rfl⟩) ?_
        refine wpAny_take (i := 7) (v := _) rfl (by kernel_rfl) (by kernel_rfl) (by kernel_rfl) (fun _ _ _ h => h) (Or.inl ⟨by rfl, fun w => by go_simp; rfl⟩) ?_
        refine wpAny_take (i := 8) (v := _) rfl (by kernel_rfl) (by kernel_rfl) (by kernel_rfl) (fun _ _ _ h => h) (Or.inl ⟨by rfl, fun w => by go_simp; rfl⟩) ?_
        apply join (W := w3)
        case h1 =>
          intro key_0_3_4_9_10_11_12
          apply join (W := w3)
          case h1 =>
            intro key_0_3_4_9_10_11
            apply join (W := w3)
            case h1 =>
              intro key_3_4_9_10_11
              apply join (W := w3)
              case h1 =>
                intro key_0_3_4_9_10
                apply join (W := w3)
                case h1 =>
                  intro key_3_4_9_10
                  apply join (W := w3)
                  case h1 =>
                    intro key_0_3_4_9
                    apply join (W := w3)
                    case h1 =>
                      intro key_3_4_9
                      apply join (W := w3)
                      case h1 =>
                        intro key_0_3_4
                        apply join (W := w3)
                        case h1 =>
                          intro key_3_4
                          apply join (W := w3)
                          case h1 =>
                            intro key_0_3_9
                            apply join (W := w3)
                            case h1 =>
                              intro key_0_3
                              apply join (W := w3)
                              case h1 =>
                                intro key_3_9
                                apply join (W := w3)
                                case h1 =>
                                  intro key_3
                                  have hF0 : Below w3.heap.size w3 w3.drew := (Below.refl _ w3).drew
                                  obtain ⟨c0, c1, f0, f1⟩ := (hPC3.below hF0).facts
                                  have c9 := (hF0.cell (p := ⟨g, a, none⟩) hgl3).trans k93
                                  refine wpAny_ready (rs := [0, 3, 9]) (by kernel_rfl) (by simp) ?_
                                  refine AllReady.cons rfl (fun K hK => ?_) ?_
                                  · go_simp
                                    refine hK _ _ ?_
                                    clear hK K
                                    refine wpAny_ready (rs := [3, 9]) (by kernel_rfl) (by simp) ?_
                                    refine AllReady.cons rfl (fun K hK => ?_) ?_
                                    · go_simp
                                      refine (HW.out _ ?_ ?_).mono ?_
                                      · exact hcm3.below hF0
                                      · exact hO3.rd.below hF0
                                      rintro e x1 ⟨rfl, y1⟩
                                      have z1 := hF0.trans (y1.mono hF0.size)
                                      refine hK _ _ ?_
                                      clear hK K
                                      exact key_0_3 x1 z1
                                    refine AllReady.cons rfl (fun K hK => ?_) ?_
                                    · go_simp
                                      refine hK _ _ ?_
                                      clear hK K
                                      refine wpAny_ready (rs := [3]) (by kernel_rfl) (by simp) ?_
                                      refine AllReady.cons rfl (fun K hK => ?_) ?_
                                      · go_simp
                                        refine (HW.out _ ?_ ?_).mono ?_
                                        · exact hcm3.below hF0
                                        · exact hO3.rd.below hF0
                                        rintro e x2 ⟨rfl, y2⟩
                                        have z2 := hF0.trans (y2.mono hF0.size)
                                        refine hK _ _ ?_
                                        clear hK K
                                        exact key_0_3_9 x2 z2
                                      exact AllReady.nil
                                    exact AllReady.nil
                                  refine AllReady.cons rfl (fun K hK => ?_) ?_
                                  · go_simp
                                    refine (HW.out _ ?_ ?_).mono ?_
                                    · exact hcm3.below hF0
                                    · exact hO3.rd.below hF0
                                    rintro e x3 ⟨rfl, y3⟩
                                    have z3 := hF0.trans (y3.mono hF0.size)
                                    refine hK _ _ ?_
                                    clear hK K
                                    exact key_3 x3 z3
                                  refine AllReady.cons rfl (fun K hK => ?_) ?_
                                  · go_simp
                                    refine hK _ _ ?_
                                    clear hK K
                                    refine wpAny_ready (rs := [0, 3]) (by kernel_rfl) (by simp) ?_
                                    refine AllReady.cons rfl (fun K hK => ?_) ?_
                                    · go_simp
                                      refine hK _ _ ?_
                                      clear hK K
                                      refine wpAny_ready (rs := [3]) (by kernel_rfl) (by simp) ?_
                                      refine AllReady.cons rfl (fun K hK => ?_) ?_
                                      · go_simp
                                        refine (HW.out _ ?_ ?_).mono ?_
                                        · exact hcm3.below hF0
                                        · exact hO3.rd.below hF0
                                        rintro e x4 ⟨rfl, y4⟩
                                        have z4 := hF0.trans (y4.mono hF0.size)
                                        refine hK _ _ ?_
                                        clear hK K
                                        refine wpAny_listed (listed' := _) ?_ (key_0_3_9 x4 z4)
                                        kernel_rfl
                                      exact AllReady.nil
                                    refine AllReady.cons rfl (fun K hK => ?_) ?_
                                    · go_simp
                                      refine (HW.out _ ?_ ?_).mono ?_
                                      · exact hcm3.below hF0
                                      · exact hO3.rd.below hF0
                                      rintro e x5 ⟨rfl, y5⟩
                                      have z5 := hF0.trans (y5.mono hF0.size)
                                      refine hK _ _ ?_
                                      clear hK K
                                      exact key_3_9 x5 z5
                                    exact AllReady.nil
                                  exact AllReady.nil
                                case h2 =>
                                  intro w2 hF2
                                  obtain ⟨c0, c1, f0, f1⟩ := (hPC3.below hF2).facts
                                  have c9 := (hF2.cell (p := ⟨g, a, none⟩) hgl3).trans k93
                                  refine wpAny_ready (rs := [0, 4, 9]) (by kernel_rfl) (by simp) ?_
                                  refine AllReady.cons rfl (fun K hK => ?_) ?_
                                  · go_simp
                                    refine hK _ _ ?_
                                    clear hK K
                                    refine wpAny_listed (listed' := _) ?_ (key_0_3 w2 hF2)
                                    kernel_rfl
                                  refine AllReady.cons rfl (fun K hK => ?_) ?_
                                  · go_simp
                                    refine (Sfrac_any W 1 W 1 _ HK.out (by decide) (by omega) (by omega) (by decide)).mono ?_
                                    rintro e x6 ⟨rfl, y6⟩
                                    have z6 := hF2.trans (y6.mono hF2.size)
                                    refine hK _ _ ?_
                                    clear hK K
                                    exact key_3_4 x6 z6
                                  refine AllReady.cons rfl (fun K hK => ?_) ?_
                                  · go_simp
                                    refine hK _ _ ?_
                                    clear hK K
                                    refine wpAny_listed (listed' := _) ?_ (key_3_9 w2 hF2)
                                    kernel_rfl
                                  exact AllReady.nil
                              case h2 =>
                                intro w2 hF2
                                obtain ⟨c0, c1, f0, f1⟩ := (hPC3.below hF2).facts
                                have c9 := (hF2.cell (p := ⟨g, a, none⟩) hgl3).trans k93
                                refine wpAny_ready (rs := [0, 4]) (by kernel_rfl) (by simp) ?_
                                refine AllReady.cons rfl (fun K hK => ?_) ?_
                                · go_simp
                                  refine hK _ _ ?_
                                  clear hK K
                                  refine wpAny_listed (listed' := _) ?_ (key_0_3_9 w2 hF2)
                                  kernel_rfl
                                refine AllReady.cons rfl (fun K hK => ?_) ?_
                                · go_simp
                                  refine (Sfrac_any W 1 W 1 _ HK.out (by decide) (by omega) (by omega) (by decide)).mono ?_
                                  rintro e x7 ⟨rfl, y7⟩
                                  have z7 := hF2.trans (y7.mono hF2.size)
                                  refine hK _ _ ?_
                                  clear hK K
                                  exact key_3_4_9 x7 z7
                                exact AllReady.nil
                            case h2 =>
                              intro w2 hF2
                              obtain ⟨c0, c1, f0, f1⟩ := (hPC3.below hF2).facts
                              have c9 := (hF2.cell (p := ⟨g, a, none⟩) hgl3).trans k93
                              refine wpAny_ready (rs := [4, 9]) (by kernel_rfl) (by simp) ?_
                              refine AllReady.cons rfl (fun K hK => ?_) ?_
                              · go_simp
                                refine (Sfrac_any W 1 W 1 _ HK.out (by decide) (by omega) (by omega) (by decide)).mono ?_
                                rintro e x8 ⟨rfl, y8⟩
                                have z8 := hF2.trans (y8.mono hF2.size)
                                refine hK _ _ ?_
                                clear hK K
                                exact key_0_3_4 x8 z8
                              refine AllReady.cons rfl (fun K hK => ?_) ?_
                              · go_simp
                                refine hK _ _ ?_
                                clear hK K
                                refine wpAny_listed (listed' := _) ?_ (key_0_3_9 w2 hF2)
                                kernel_rfl
                              exact AllReady.nil
                          case h2 =>
                            intro w2 hF2
                            obtain ⟨c0, c1, f0, f1⟩ := (hPC3.below hF2).facts
                            have c9 := (hF2.cell (p := ⟨g, a, none⟩) hgl3).trans k93
                            refine wpAny_ready (rs := [4]) (by kernel_rfl) (by simp) ?_
                            refine AllReady.cons rfl (fun K hK => ?_) ?_
                            · go_simp
                              refine (Sfrac_any W 1 W 1 _ HK.out (by decide) (by omega) (by omega) (by decide)).mono ?_
                              rintro e x9 ⟨rfl, y9⟩
                              have z9 := hF2.trans (y9.mono hF2.size)
                              refine hK _ _ ?_
                              clear hK K
                              exact key_0_3_4_9 x9 z9
                            exact AllReady.nil
                        case h2 =>
                          intro w2 hF2
                          obtain ⟨c0, c1, f0, f1⟩ := (hPC3.below hF2).facts
                          have c9 := (hF2.cell (p := ⟨g, a, none⟩) hgl3).trans k93
                          refine wpAny_ready (rs := [0, 9]) (by kernel_rfl) (by simp) ?_
                          refine AllReady.cons rfl (fun K hK => ?_) ?_
                          · go_simp
                            refine hK _ _ ?_
                            clear hK K
                            refine wpAny_listed (listed' := _) ?_ (key_0_3_4 w2 hF2)
                            kernel_rfl
                          refine AllReady.cons rfl (fun K hK => ?_) ?_
                          · go_simp
                            refine hK _ _ ?_
                            clear hK K
                            refine wpAny_listed (listed' := _) ?_ (key_3_4_9 w2 hF2)
                            kernel_rfl
                          exact AllReady.nil
                      case h2 =>
                        intro w2 hF2
                        obtain ⟨c0, c1, f0, f1⟩ := (hPC3.below hF2).facts
                        have c9 := (hF2.cell (p := ⟨g, a, none⟩) hgl3).trans k93
                        refine wpAny_ready (rs := [9]) (by kernel_rfl) (by simp) ?_
                        refine AllReady.cons rfl (fun K hK => ?_) ?_
                        · go_simp
                          refine hK _ _ ?_
                          clear hK K
                          refine wpAny_listed (listed' := _) ?_ (key_0_3_4_9 w2 hF2)
                          kernel_rfl
                        exact AllReady.nil
                    case h2 =>
                      intro w2 hF2
                      obtain ⟨c0, c1, f0, f1⟩ := (hPC3.below hF2).facts
                      have c9 := (hF2.cell (p := ⟨g, a, none⟩) hgl3).trans k93
                      refine wpAny_ready (rs := [0, 10]) (by kernel_rfl) (by simp) ?_
                      refine AllReady.cons rfl (fun K hK => ?_) ?_
                      · go_simp
                        refine hK _ _ ?_
                        clear hK K
                        refine wpAny_listed (listed' := _) ?_ (key_0_3_4_9 w2 hF2)
                        kernel_rfl
                      refine AllReady.cons rfl (fun K hK => ?_) ?_
                      · go_simp
                        refine (HVT.out _ ?_).mono ?_
                        · exact hcm3.below hF2
                        rintro e x10 ⟨rfl, y10⟩
                        have z10 := hF2.trans (y10.mono hF2.size)
                        refine hK _ _ ?_
                        clear hK K
                        exact key_3_4_9_10 x10 z10
                      exact AllReady.nil
                  case h2 =>
                    intro w2 hF2
                    obtain ⟨c0, c1, f0, f1⟩ := (hPC3.below hF2).facts
                    have c9 := (hF2.cell (p := ⟨g, a, none⟩) hgl3).trans k93
                    refine wpAny_ready (rs := [10]) (by kernel_rfl) (by simp) ?_
                    refine AllReady.cons rfl (fun K hK => ?_) ?_
                    · go_simp
                      refine (HVT.out _ ?_).mono ?_
                      · exact hcm3.below hF2
                      rintro e x11 ⟨rfl, y11⟩
                      have z11 := hF2.trans (y11.mono hF2.size)
                      refine hK _ _ ?_
                      clear hK K
                      exact key_0_3_4_9_10 x11 z11
                    exact AllReady.nil
                case h2 =>
                  intro w2 hF2
                  obtain ⟨c0, c1, f0, f1⟩ := (hPC3.below hF2).facts
                  have c9 := (hF2.cell (p := ⟨g, a, none⟩) hgl3).trans k93
                  refine wpAny_ready (rs := [0, 11]) (by kernel_rfl) (by simp) ?_
                  refine AllReady.cons rfl (fun K hK => ?_) ?_
                  · go_simp
                    refine hK _ _ ?_
                    clear hK K
                    refine wpAny_listed (listed' := _) ?_ (key_0_3_4_9_10 w2 hF2)
                    kernel_rfl
                  refine AllReady.cons rfl (fun K hK => ?_) ?_
                  · go_simp
                    refine (Stimes_any W 1 vn vd tn td _ HTM.out (by omega) (by omega) (by omega) (by omega)).mono ?_
                    rintro e x12 ⟨rfl, y12⟩
                    have z12 := hF2.trans (y12.mono hF2.size)
                    refine hK _ _ ?_
                    clear hK K
                    exact key_3_4_9_10_11 x12 z12
                  exact AllReady.nil
              case h2 =>
                intro w2 hF2
                obtain ⟨c0, c1, f0, f1⟩ := (hPC3.below hF2).facts
                have c9 := (hF2.cell (p := ⟨g, a, none⟩) hgl3).trans k93
                refine wpAny_ready (rs := [11]) (by kernel_rfl) (by simp) ?_
                refine AllReady.cons rfl (fun K hK => ?_) ?_
                · go_simp
                  refine (Stimes_any W 1 vn vd tn td _ HTM.out (by omega) (by omega) (by omega) (by omega)).mono ?_
                  rintro e x13 ⟨rfl, y13⟩
                  have z13 := hF2.trans (y13.mono hF2.size)
                  refine hK _ _ ?_
                  clear hK K
                  exact key_0_3_4_9_10_11 x13 z13
                exact AllReady.nil
            case h2 =>
              intro w2 hF2
              obtain ⟨c0, c1, f0, f1⟩ := (hPC3.below hF2).facts
              have c9 := (hF2.cell (p := ⟨g, a, none⟩) hgl3).trans k93
              refine wpAny_ready (rs := [0]) (by kernel_rfl) (by simp) ?_
              refine AllReady.cons rfl (fun K hK => ?_) ?_
              · go_simp
                refine hK _ _ ?_
                clear hK K
                refine wpAny_listed (listed' := _) ?_ (key_0_3_4_9_10_11 w2 hF2)
                kernel_rfl
              exact AllReady.nil
          case h2 =>
            intro w2 hF2
            obtain ⟨c0, c1, f0, f1⟩ := (hPC3.below hF2).facts
            have c9 := (hF2.cell (p := ⟨g, a, none⟩) hgl3).trans k93
            refine wpAny_ready (rs := [12]) (by kernel_rfl) (by simp) ?_
            refine AllReady.cons rfl (fun K hK => ?_) ?_
            · go_simp
              refine (Splus_any x y tn td n' d' _ HPL.out (by omega) (by omega) (by omega) (by omega) (by omega) (by omega)).mono ?_
              rintro e x14 ⟨rfl, y14⟩
              have z14 := hF2.trans (y14.mono hF2.size)
              refine hK _ _ ?_
              clear hK K
              exact key_0_3_4_9_10_11_12 x14 z14
            exact AllReady.nil
        case h2 =>
          intro w2 hF2
          obtain ⟨c0, c1, f0, f1⟩ := (hPC3.below hF2).facts
          have c9 := (hF2.cell (p := ⟨g, a, none⟩) hgl3).trans k93
          unfold frV
          refine wpAny_ready (rs := [13]) (by kernel_rfl) (by simp) ?_
          refine AllReady.cons rfl (fun K hK => ?_) ?_
          · go_simp
            refine hK _ _ ?_
            clear hK K
            refine wpAny_done (by kernel_rfl) ?_ _
            have B5 := below_set2 (B := C) (hb3.trans (hF2.mono hb3.size)) (Nat.le_of_lt hCl) (.int .i64 n') (.int .i64 d')
            have hPC5 := (hPC3.below hF2).set_ n' d'
            have hPR5 := (hPR3.below hF2).other (Nat.ne_of_lt hCl) (.int .i64 n') (.int .i64 d')
            have hO5 : Own ((w2.setCell ⟨C, 0, none⟩ (.int .i64 n')).setCell ⟨C, 1, none⟩ (.int .i64 d')) (C + 1) (some ⟨g, 0, none⟩) cg ys :=
              World.ownsRow.kept (World.ownsRow.kept (hO3.below hF2) (grow_set w2 C 0 (.int .i64 n')) (.inr (own_ne hO3))) (grow_set _ C 1 (.int .i64 d')) (.inr (own_ne hO3))
            generalize (w2.setCell ⟨C, 0, none⟩ (.int .i64 n')).setCell ⟨C, 1, none⟩ (.int .i64 d') = w5 at *
            have hl5 : C + 1 ≤ w5.heap.size := hPC5.lt
            go_wp2_with fail
            refine (HX.out _ hO5.rd).mono ?_
            rintro e w6 (⟨zs, g6, c6, HN, rfl, o6, b6⟩ | ⟨HN, rfl, b6⟩)
            · obtain ⟨hf6, hll6⟩ := HF.out.next HN
              have HE5 := FN.out
              rw [HN] at HE5
              have HE6 := Lib.hid HE5
              have HL6 := Lib.hid hll6
              have HF6 := Lib.hid hf6
              have B6 := below_up B5 b6
              have o6' := o6.base hl5
              have hPR6 := hPR5.below b6
              have hPC6 := hPC5.below b6
              have hn1 := HN1.out
              clear hf6 hll6 HN HE5 o6
              go_wp2
              go_roundw
              case rel => exact ⟨n', d', _, k + 1, B6, hPR6, hPC6, HSS, .inl ⟨g6, c6, zs, rfl, o6', HF6, HE6⟩⟩
              case measure =>
                rw [HL.out, roundsLeft_own o6' (by have := HF6.out.1; omega)]
                have := HL6.out
                omega
            · have HE5 := FN.out
              rw [HN] at HE5
              have HE6 := Lib.hid HE5
              have B6 := below_up B5 b6
              have hPR6 := hPR5.below b6
              have hPC6 := hPC5.below b6
              clear HN HE5
              go_wp2
              go_roundw
              case rel => exact ⟨n', d', _, k + 1, B6, hPR6, hPC6, HSS, .inr ⟨rfl, HE6⟩⟩
              case measure => rw [HL.out, roundsLeft_nil]; omega
          exact AllReady.nil
      · have hq2 : q = -1 := by rw [hq, ha]
        have htq : termQ xs (virtG xs r) ys = 0 := by unfold termQ virtG; rw [hg]; simp
        have FN := Lib.hid (FIN.out S (by rw [htq]; grind))
        rw [hq2] at HQQ
        clear ha hq hq2 hg htq
        go_wp2_with fail
        refine (sale_is _ 1 _ _ ys r _ HQQ.out first_is hO.rd hy1 hy2).mono ?_
        rintro e w5 ⟨g3, c3, rfl, _, b3⟩
        have hO5 := hO.below b3
        have hPR5 := hPR.below b3
        have hPC5 := hPC.below b3
        have B5 := below_up hb b3
        have hl5 : C + 1 ≤ w5.heap.size := hPC5.lt
        clear hO hPR hPC hcm hb b3
        go_wp2_with fail
        refine (HX.out _ hO5.rd).mono ?_
        rintro e w6 (⟨zs, g6, c6, HN, rfl, o6, b6⟩ | ⟨HN, rfl, b6⟩)
        · obtain ⟨hf6, hll6⟩ := HF.out.next HN
          have HE5 := FN.out
          rw [HN] at HE5
          have HE6 := Lib.hid HE5
          have HL6 := Lib.hid hll6
          have HF6 := Lib.hid hf6
          have B6 := below_up B5 b6
          have o6' := o6.base hl5
          have hPR6 := hPR5.below b6
          have hPC6 := hPC5.below b6
          have hn1 := HN1.out
          clear hf6 hll6 HN HE5 o6
          go_wp2
          go_roundw
          case rel => exact ⟨x, y, _, k + 1, B6, hPR6, hPC6, HS, .inl ⟨g6, c6, zs, rfl, o6', HF6, HE6⟩⟩
          case measure =>
            rw [HL.out, roundsLeft_own o6' (by have := HF6.out.1; omega)]
            have := HL6.out
            omega
        · have HE5 := FN.out
          rw [HN] at HE5
          have HE6 := Lib.hid HE5
          have B6 := below_up B5 b6
          have hPR6 := hPR5.below b6
          have hPC6 := hPC5.below b6
          clear HN HE5
          go_wp2
          go_roundw
          case rel => exact ⟨x, y, _, k + 1, B6, hPR6, hPC6, HS, .inr ⟨rfl, HE6⟩⟩
          case measure => rw [HL.out, roundsLeft_nil]; omega
    · have HE2 := Lib.hid (show x = N ∧ y = M by have := HS.out; rw [HE.out.done] at this; exact this.same HQ.out)
      obtain ⟨c0, c1, f0, f1⟩ := hPC.facts
      obtain ⟨c2, c3, f2, f3⟩ := hPR.facts
      go_wp2
      obtain ⟨g0, g1, _, _⟩ := (hPR.set_ x y).facts
      have hB := below_set2 hb (Nat.le_refl _) (.int .i64 x) (.int .i64 y)
      obtain ⟨rfl, rfl⟩ := HE2.out
      refine bodyPost_ret (v := .tuple #[frV x y, .bool true]) (by simp [results, Try.results38, go_sem, frV, g0, g1]) rfl ⟨rfl, hB⟩
end Go.Proofs.Ytoipjhdnmiomeaa

/-
  Chapter 2, the model: the contract of BestRevenue.
-/
namespace Go.Proofs.Ytoipjhdnmiomeaa
open Go.RowKit

theorem gi_ne {C gi ci : Nat} {ps : List (Int × Int)} (h : gi < C) : Value.ownBlock (.slice (some ⟨gi, 0, none⟩) ps.length ci) ≠ some C := by
  intro e
  simp [Value.ownBlock] at e
  omega
theorem outF_some {w : World} {qs : List Rat} {e : Ending} {w' : World} (h : OutF w (some qs) e w') :
    ∃ g c, e = .returned (.slice (some ⟨g, 0, none⟩) (frL qs).length c) ∧ OwnF w' w.heap.size (some ⟨g, 0, none⟩) c (frL qs) ∧ Below w.heap.size w w' := by
  obtain ⟨hb, ⟨h1, _⟩ | ⟨qs', g, c', h1, rfl, ho⟩⟩ := h
  · cases h1
  · obtain rfl : qs = qs' := by injection h1
    exact ⟨g, c', rfl, ho, hb⟩
theorem topR_snoc (f : Int → Rat) (hf : ∀ vs : List Int, 0 ≤ topR f vs) : ∀ (vs : List Int) (v : Int), topR f (vs ++ [v]) = max (topR f vs) (f v)
  | [], v => by simp only [List.nil_append, topR]; grind
  | u :: vs, v => by
    have h := topR_snoc f hf vs v
    rw [List.cons_append, topR, topR, h]
    grind
theorem iron_step {xs ys : List Int} {k v : Nat} (hx : ys[k]? = some (v : Int)) : ironG xs (ys.take (k + 1)) = max (ironG xs (ys.take k)) (ironAt xs v) := by
  unfold ironG
  rw [List.take_add_one, hx]
  simpa using topR_snoc (fun v => ironAt xs v.toNat) (topR_nn _) (ys.take k) (v : Int)

set_option maxRecDepth 100000 in
set_option maxHeartbeats 8000000 in
theorem SBestRevenue_yes (b off c : Nat) (xs : List Int) (n : Nat) (N M : Int) (w : World) (h : Rd w (some ⟨b, off, none⟩) c xs) (hv : vW xs = true) (hn1 : 1 ≤ n) (hn : n ≤ 3) (hq : FrIs (sumV xs (ironG xs) n) N M) :
    Calls Try.prog 40 #[.slice (some ⟨b, off, none⟩) xs.length c, .int .i64 n] w fun e w' => e = .returned (.tuple #[frV N M, .bool true]) ∧ Below w.heap.size w w' := by
  obtain ⟨l1, l2⟩ := vW_le hv
  have hl : xs.length ≤ 1048576 := by omega
  obtain ⟨top, ht⟩ : ∃ top, top = xs.length - 1 := ⟨_, rfl⟩
  have HC := Lib.hid (show crowdB xs n 0 = true by
    unfold crowdB
    rw [hv, inR_true.2 ⟨by omega, by omega⟩, inR_true.2 ⟨by omega, by omega⟩]; rfl)
  have HV := Lib.hid hv
  have HT := Lib.hid ht
  obtain ⟨D, hok⟩ := iron_ok (n := n) hv hn
  obtain ⟨D', e1, e2, hD'⟩ := iron_sc (vW_valid hv)
  have HTS := Lib.hid (fun vs (hi : InV xs vs) n d (hf : FrIs (ironG xs vs) n d) => show -10077696 ≤ n ∧ n ≤ 10077696 ∧ 1 ≤ d ∧ d ≤ 46656 by
    have := (top_sc e1 hD' vs hi).bd e1 hf
    omega)
  have HIS := Lib.hid (fun v (hi : v < xs.length) n d (hf : FrIs (ironAt xs v) n d) => show -10077696 ≤ n ∧ n ≤ 10077696 ∧ 1 ≤ d ∧ d ≤ 46656 by
    have := (hD' v hi).bd e1 hf
    omega)
  have HOK := Lib.hid hok
  have HQ := Lib.hid hq
  have ht5 : top ≤ 5 := by omega
  have htx : (xs.length : Int) - 1 = (top : Int) := by omega
  have htw : IntKind.i64.wrap (top : Int) = (top : Int) := IntWalk.i64_in _ (by omega)
  obtain ⟨ps, hps⟩ : ∃ ps, ps = frL (ironed xs) := ⟨_, rfl⟩
  have hpl : ps.length = xs.length := by rw [hps, frL_len, ironed_len]
  have HP := Lib.hid hps
  have HPL := Lib.hid hpl
  have h' := h.below (below_al w (.cells #[.int .i64 0, .int .i64 0] 30))
  have HI := Lib.hid (Sironed_any (some ⟨b, off, none⟩) c xs _ h' hv)
  clear hv ht hq hok hps hpl hD' e1 e2
  have HN1 := Lib.hid hn1
  have HH := Lib.hid h
  clear hn1 h
  go_enter Try.func40, Try.ntmps40
  go_wp2_with fail
  refine (validCrowd_any _ _ _ _ _ _ h' hl).mono ?_
  rw [HC.out]
  rintro e w1 ⟨rfl, rfl⟩
  go_wp2_with fail
  refine HI.out.mono ?_
  rintro e w2 ho0
  obtain ⟨gi, ci, rfl, hOI2, hb2⟩ := outF_some ho0
  rw [← HP.out] at hOI2
  rw [show (frL (ironed xs)).length = xs.length by rw [← HP.out, HPL.out]]
  have hk := PairAt.below (PairAt.new (w := w)) hb2
  have hB2 := below_up (below_al w _) hb2
  clear ho0
  go_wp2_with fail
  refine (Sfrac_any 0 1 0 1 _ (by rw [fq_one]; exact FrIs.int 0) (by decide) (by omega) (by omega) (by decide)).mono ?_
  rintro e w3 ⟨rfl, hb3⟩
  have hk3 := hk.below hb3
  have hB3 := below_up hB2 hb3
  have hOI3 := (hOI2.below hb3).base (B' := w.heap.size + 1) (by simp)
  have hwl := hk3.lt
  clear hk hb2 hB2 hb3 hOI2
  unfold frV
  go_wp2_with (at_make; refine wpList_make_ints rfl _ _ rfl (w3.heap.size + 1) n rfl rfl (by omega) (by simp) ?_; intro w0 ho hb)
  have hB0 : Below w.heap.size w w0 := (below_up hB3 (below_al w3 _)).trans (hb.mono (by have := hB3.size; simp; omega))
  have hb' : Below (w3.heap.size + 1) (w3.alloc (.cells #[.int .i64 0, .int .i64 1] 30)) w0 := hb.mono (by simp)
  have hPR0 : PairAt w0 w.heap.size 0 0 := (hb'.block _ (by omega)).trans (hk3.old _)
  have hPC0 : PairAt w0 w3.heap.size 0 1 := (hb'.block _ (by omega)).trans PairAt.new
  have hOI0 : OwnF w0 (w.heap.size + 1) (some ⟨gi, 0, none⟩) ci ps := (hOI3.below (below_al w3 _)).below (hb.mono (by simp))
  have hCl : w.heap.size < w3.heap.size := hwl
  have hgi : gi < w3.heap.size := (World.ownsRow.lt hOI3 gi rfl).2
  rw [World.size_alloc] at ho
  clear hk3 hB3 hwl hb hb' h' hOI3
  generalize w3.heap.size = C at *
  go_loopw [8] (fun bd wr => ∃ (x y : Int) (S : Rat) (k : Nat), Below w.heap.size w wr ∧ PairAt wr w.heap.size 0 0 ∧ PairAt wr C x y ∧ OwnF wr (w.heap.size + 1) (some ⟨gi, 0, none⟩) ci ps ∧ Hid (FrIs S x y) ∧
      ((∃ g cg ys, bd = .slice (some ⟨g, 0, none⟩) ys.length cg ∧ Own wr (C + 1) (some ⟨g, 0, none⟩) cg ys ∧ Hid (Fit top n ys) ∧ Hid (QTo xs (ironG xs) n D S k (some ys))) ∨
       (bd = .slice none 0 0 ∧ Hid (QTo xs (ironG xs) n D S k none))))
    (fun bd wr => roundsLeft top wr bd)
  case atStart =>
    exact ⟨0, 1, 0, 0, hB0, hPR0, hPC0, hOI0, Lib.hid (FrIs.int 0), .inl ⟨_, _, List.replicate n 0, by simp, ho, Lib.hid (Fit.zero top n), Lib.hid (QTo.start xs _ _ hn l2)⟩⟩
  case round =>
    obtain ⟨x, y, S, k, hb, hPR, hPC, hOI, HS, ⟨g, cg, ys, rfl, hO, HF, HE⟩ | ⟨rfl, HE⟩⟩ := hrel
    · have hn1 := HN1.out
      have hyl := HF.out.1
      have hy1 : 1 ≤ ys.length := by omega
      have hy2 : ys.length ≤ 1048576 := by omega
      have hy3 : ys.length ≤ 3 := by omega
      have hpos : (0 : Int) < ys.length := by omega
      have HL := Lib.hid (roundsLeft_own (top := top) hO hy1)
      have hcm := HH.out.below hb
      have HF' : Hid (Fit (xs.length - 1) n ys) := Lib.hid (by rw [← HT.out]; exact HF.out)
      have HIV := Lib.hid (HF'.out.inV l1)
      have HYL := Lib.hid hyl
      clear hyl hn1
      go_wp2_with fail
      refine (Sfrac_any 0 1 0 1 _ (by rw [fq_one]; exact FrIs.int 0) (by decide) (by omega) (by omega) (by decide)).mono ?_
      rintro e w4 ⟨rfl, hb4⟩
      unfold frV
      have hPR4 := hPR.below hb4
      have hPC4 := hPC.below hb4
      have hOI4 := hOI.below hb4
      have hO4 := hO.below hb4
      have hcm4 := hcm.below hb4
      have hb04 := below_up hb hb4
      have HW := Lib.hid (fun w h h2 => weightOf_any b off c xs (some ⟨g, 0, none⟩) cg ys w h h2 (vW_valid HV.out) HIV.out hy3)
      have HX := Lib.hid (fun w (h : Rd w (some ⟨g, 0, none⟩) cg ys) => next_any (some ⟨g, 0, none⟩) cg ys top w h hy2 (by omega) (by omega) HF.out.2)
      have FIN := Lib.hid (fun S' (hS' : S' = S + termQ xs (ironG xs) ys) => show QTo xs (ironG xs) n D S' (k + 1) (nextF ys (top : Nat)) by
        have := HE.out.step HOK.out HF'.out hS'
        rw [← HT.out] at this
        exact this)
      clear hPR hPC hOI hO hcm hb hb4
      rename World => w9
      go_wp2
      go_loopw [10] (fun i wr => ∃ (j : Nat) (bx by' : Int), j ≤ n ∧ i = .int .i64 j ∧ Below w9.heap.size w9 wr ∧ PairAt wr w9.heap.size bx by' ∧ Hid (FrIs (ironG xs (ys.take j)) bx by')) (fun i _ => n - (intOf i).toNat)
      case atStart => exact ⟨0, 0, 1, Nat.zero_le _, rfl, below_al _ _, PairAt.new, Lib.hid (FrIs.int 0)⟩
      case round =>
        obtain ⟨j, bx, by', hj, rfl, hbi, hPE, HB⟩ := hrel
        obtain ⟨t0, t1, t2, t3⟩ := HTS.out _ (HIV.out.take j) _ _ HB.out
        by_cases hjn : j < n
        · have hjy : j < ys.length := by have := HYL.out; omega
          obtain ⟨u, hu⟩ := at_some hjy
          obtain ⟨v, rfl, hvl⟩ := HIV.out.at_ hu
          obtain ⟨qn, hqn⟩ : ∃ n, n = (ironAt xs v).num := ⟨_, rfl⟩
          obtain ⟨qd, hqd⟩ : ∃ d, d = ((ironAt xs v).den : Int) := ⟨_, rfl⟩
          have hqq : FrIs (ironAt xs v) qn qd := ⟨hqn, hqd⟩
          obtain ⟨v0, v1, v2, v3⟩ := HIS.out v hvl _ _ hqq
          have hgg : (ironed xs)[v]? = some (ironAt xs v) := by
            have h : v < (ironed xs).length := by rw [ironed_len]; exact hvl
            unfold ironAt
            rw [List.getD_eq_getElem?_getD, List.getElem?_eq_getElem h]; rfl
          have hg := frL_get hgg hqq
          rw [← HP.out] at hg
          have HGG := Lib.hid hg
          have HU := Lib.hid hu
          have HQQ := Lib.hid hqq
          have hst := iron_step (xs := xs) hu
          obtain ⟨m1, m2⟩ := mul_bd t0 t1 v2 v3 (by omega)
          obtain ⟨m3, m4⟩ := mul_bd v0 v1 t2 t3 (by omega)
          have hOi := hO4.below hbi
          have hIi := hOI4.below hbi
          have k1 := hOi.cell hu
          obtain ⟨k2, k3⟩ := hIi.cell hg
          obtain ⟨c0, c1, f0, f1⟩ := hPE.facts
          have hjl : (j : Int) < (ys.length : Int) := by omega
          have hjn2 : (j : Int) < (n : Int) := by omega
          have hvi : (v : Int) < (xs.length : Int) := by omega
          by_cases hlt : ironG xs (ys.take j) < ironAt xs v
          · have HLL := Lib.hid (show lessF bx by' qn qd = true by rw [lessF_is HB.out hqq]; simpa using hlt)
            have HB2 : Hid (FrIs (ironG xs (ys.take (j + 1))) qn qd) := Lib.hid (by
              rw [hst, show max (ironG xs (ys.take j)) (ironAt xs v) = ironAt xs v by grind]; exact hqq)
            clear hu hqn hqd hqq hgg hg hst hlt
            go_wp2_with fail
            refine region_tail 8 (by kernel_rfl) (by kernel_rfl) ?_
            simp only [List.take_succ_cons, List.take_zero, List.drop_succ_cons, List.drop_zero]
            iterate 8 (refine wpStill_step (fun K hK => ?_); go_simp; (try go_bits); refine hK _ ?_; clear hK K)
            refine wpStill_nil ?_
            go_wp2_with fail
            refine (Sless_any bx by' qn qd true _ HLL.out (by omega) (by omega) (by omega) (by omega)).mono ?_
            rintro e w6 ⟨rfl, hb6⟩
            have hbi6 := hbi.drew.trans (hb6.mono hbi.size)
            have hPE6 := hPE.below (show Below wr.heap.size wr w6 from (Below.refl _ wr).drew.trans hb6)
            have k16 := (hO4.below hbi6).cell HU.out
            obtain ⟨k26, k36⟩ := (hOI4.below hbi6).cell HGG.out
            obtain ⟨d0, d1, g0, g1⟩ := hPE6.facts
            have hPE7 := hPE6.set_ qn qd
            have hbi7 := below_set2 hbi6 (Nat.le_refl _) (.int .i64 qn) (.int .i64 qd)
            go_wp2
            go_roundw
            case rel => exact ⟨j + 1, qn, qd, by omega, by go_num, hbi7, hPE7, HB2⟩
            case measure => simp [intOf] <;> omega
          · have HLL := Lib.hid (show lessF bx by' qn qd = false by rw [lessF_is HB.out hqq]; simpa using hlt)
            have HB2 : Hid (FrIs (ironG xs (ys.take (j + 1))) bx by') := Lib.hid (by
              rw [hst, show max (ironG xs (ys.take j)) (ironAt xs v) = ironG xs (ys.take j) by grind]; exact HB.out)
            clear hu hqn hqd hqq hgg hg hst hlt
            go_wp2_with fail
            refine region_tail 8 (by kernel_rfl) (by kernel_rfl) ?_
            simp only [List.take_succ_cons, List.take_zero, List.drop_succ_cons, List.drop_zero]
            iterate 8 (refine wpStill_step (fun K hK => ?_); go_simp; (try go_bits); refine hK _ ?_; clear hK K)
            refine wpStill_nil ?_
            go_wp2_with fail
            refine (Sless_any bx by' qn qd false _ HLL.out (by omega) (by omega) (by omega) (by omega)).mono ?_
            rintro e w6 ⟨rfl, hb6⟩
            have hbi6 := hbi.drew.trans (hb6.mono hbi.size)
            have hPE6 := hPE.below (show Below wr.heap.size wr w6 from (Below.refl _ wr).drew.trans hb6)
            go_wp2
            go_roundw
            case rel => exact ⟨j + 1, bx, by', by omega, by go_num, hbi6, hPE6, HB2⟩
            case measure => simp [intOf] <;> omega
        · obtain rfl : j = n := by omega
          have hB : FrIs (ironG xs ys) bx by' := by
            have := HB.out
            rwa [← HYL.out, List.take_length] at this
          obtain ⟨s0, s1, s2, s3⟩ := HE.out.bd HOK.out HS.out
          obtain ⟨w0', w1'⟩ := ways_bd (vW_valid HV.out) ys HIV.out hy3
          obtain ⟨W, hWW⟩ : ∃ W, W = waysF xs ys := ⟨_, rfl⟩
          rw [← hWW] at w0' w1' HW
          obtain ⟨vn, hvn⟩ : ∃ n, n = bx := ⟨_, rfl⟩
          obtain ⟨vd, hvd⟩ : ∃ d, d = by' := ⟨_, rfl⟩
          rw [← hvn, ← hvd] at hB hPE
          rw [← hvn] at t0 t1
          rw [← hvd] at t2 t3
          have htq : termQ xs (ironG xs) ys = (W : Rat) * ironG xs ys := by unfold termQ; rw [hWW]
          obtain ⟨tn, htn⟩ : ∃ n, n = ((W : Rat) * ironG xs ys).num := ⟨_, rfl⟩
          obtain ⟨td, htd⟩ : ∃ d, d = (((W : Rat) * ironG xs ys).den : Int) := ⟨_, rfl⟩
          have htt : FrIs ((W : Rat) * ironG xs ys) tn td := ⟨htn, htd⟩
          obtain ⟨r1, r2, r3, r4⟩ := term_bd HOK.out HF'.out (by rw [htq]; exact htt)
          obtain ⟨n', hn'⟩ : ∃ n, n = (S + (W : Rat) * ironG xs ys).num := ⟨_, rfl⟩
          obtain ⟨d', hd'⟩ : ∃ d, d = ((S + (W : Rat) * ironG xs ys).den : Int) := ⟨_, rfl⟩
          have hss : FrIs (S + (W : Rat) * ironG xs ys) n' d' := ⟨hn', hd'⟩
          have HSS := Lib.hid hss
          have HK := Lib.hid (show FrIs (fq W 1) W 1 by rw [fq_one]; exact FrIs.int _)
          have HTM := Lib.hid (fr_mul (FrIs.int W) hB htt)
          have HPL2 := Lib.hid (fr_add HS.out htt hss)
          have FN := Lib.hid (FIN.out _ (by rw [htq]))
          obtain ⟨p1, p2⟩ := mul_bd s0 s1 r3 r4 (by omega)
          obtain ⟨p3, p4⟩ := mul_bd r1 r2 s2 s3 (by omega)
          obtain ⟨p5, p6⟩ := mul_bd (show -46656 ≤ y by omega) s3 r3 r4 (by omega)
          have p7 := Int.mul_le_mul s2 r3 (by omega) (by omega)
          obtain ⟨m1, m2⟩ := mul_bd t0 t1 w0' w1' (by omega)
          rw [Int.mul_comm vn W] at m1 m2
          have hPR7 := hPR4.below hbi
          have hPC7 := hPC4.below hbi
          have hPE7 := hPE
          have hOI7 := hOI4.below hbi
          have hO7 := hO4.below hbi
          have hcm7 := hcm4.below hbi
          have hb7 := below_up hb04 hbi
          clear hB hWW hvn hvd htq htn htd htt hn' hd' hss HB hPR4 hPC4 hPE hOI4 hO4 hcm4 hb04 hbi
          go_wp2_with fail
          refine wp_region_any (by kernel_rfl) ?_
          refine wpAny_take (i := 1) (v := _) rfl (by kernel_rfl) (by kernel_rfl) (by kernel_rfl) (fun _ _ _ h => h) (Or.inl ⟨by rfl, fun w => by go_simp; rfl⟩) ?_
          refine wpAny_take (i := 2) (v := _) rfl (by kernel_rfl) (by kernel_rfl) (by kernel_rfl) (fun _ _ _ h => h) (Or.inl ⟨by rfl, fun w => by go_simp; rfl⟩) ?_
          apply join (W := wr)
          case h1 =>
            intro key_0_3_4_5_6_7
            apply join (W := wr)
            case h1 =>
              intro key_0_3_4_5_6
              apply join (W := wr)
              case h1 =>
                intro key_3_4_5_6
                apply join (W := wr)
                case h1 =>
                  intro key_0_3_4_5
                  apply join (W := wr)
                  case h1 =>
                    intro key_3_4_5
                    apply join (W := wr)
                    case h1 =>
                      intro key_0_3_4
                      apply join (W := wr)
                      case h1 =>
                        intro key_3_4
                        apply join (W := wr)
                        case h1 =>
                          intro key_0_3_5
                          apply join (W := wr)
                          case h1 =>
                            intro key_3_5
                            apply join (W := wr)
                            case h1 =>
                              intro key_0_3
                              apply join (W := wr)
                              case h1 =>
                                intro key_3
                                have hF0 : Below wr.heap.size wr wr.drew := (Below.refl _ wr).drew
                                obtain ⟨c0, c1, f0, f1⟩ := (hPC7.below hF0).facts
                                obtain ⟨c2, c3, f2, f3⟩ := (hPE7.below hF0).facts
                                refine wpAny_ready (rs := [0, 3, 5]) (by kernel_rfl) (by simp) ?_
                                refine AllReady.cons rfl (fun K hK => ?_) ?_
                                · go_simp
                                  refine hK _ _ ?_
                                  clear hK K
                                  refine wpAny_ready (rs := [3, 5]) (by kernel_rfl) (by simp) ?_
                                  refine AllReady.cons rfl (fun K hK => ?_) ?_
                                  · go_simp
                                    refine (HW.out _ ?_ ?_).mono ?_
                                    · exact hcm7.below hF0
                                    · exact hO7.rd.below hF0
                                    rintro e x1 ⟨rfl, y1⟩
                                    have z1 := hF0.trans (y1.mono hF0.size)
                                    refine hK _ _ ?_
                                    clear hK K
                                    exact key_0_3 x1 z1
                                  refine AllReady.cons rfl (fun K hK => ?_) ?_
                                  · go_simp
                                    refine hK _ _ ?_
                                    clear hK K
                                    refine wpAny_ready (rs := [3]) (by kernel_rfl) (by simp) ?_
                                    refine AllReady.cons rfl (fun K hK => ?_) ?_
                                    · go_simp
                                      refine (HW.out _ ?_ ?_).mono ?_
                                      · exact hcm7.below hF0
                                      · exact hO7.rd.below hF0
                                      rintro e x2 ⟨rfl, y2⟩
                                      have z2 := hF0.trans (y2.mono hF0.size)
                                      refine hK _ _ ?_
                                      clear hK K
                                      exact key_0_3_5 x2 z2
                                    exact AllReady.nil
                                  exact AllReady.nil
                                refine AllReady.cons rfl (fun K hK => ?_) ?_
                                · go_simp
                                  refine (HW.out _ ?_ ?_).mono ?_
                                  · exact hcm7.below hF0
                                  · exact hO7.rd.below hF0
                                  rintro e x3 ⟨rfl, y3⟩
                                  have z3 := hF0.trans (y3.mono hF0.size)
                                  refine hK _ _ ?_
                                  clear hK K
                                  exact key_3 x3 z3
                                refine AllReady.cons rfl (fun K hK => ?_) ?_
                                · go_simp
                                  refine hK _ _ ?_
                                  clear hK K
                                  refine wpAny_ready (rs := [0, 3]) (by kernel_rfl) (by simp) ?_
                                  refine AllReady.cons rfl (fun K hK => ?_) ?_
                                  · go_simp
                                    refine hK _ _ ?_
                                    clear hK K
                                    refine wpAny_ready (rs := [3]) (by kernel_rfl) (by simp) ?_
                                    refine AllReady.cons rfl (fun K hK => ?_) ?_
                                    · go_simp
                                      refine (HW.out _ ?_ ?_).mono ?_
                                      · exact hcm7.below hF0
                                      · exact hO7.rd.below hF0
                                      rintro e x4 ⟨rfl, y4⟩
                                      have z4 := hF0.trans (y4.mono hF0.size)
                                      refine hK _ _ ?_
                                      clear hK K
                                      refine wpAny_listed (listed' := _) ?_ (key_0_3_5 x4 z4)
                                      kernel_rfl
                                    exact AllReady.nil
                                  refine AllReady.cons rfl (fun K hK => ?_) ?_
                                  · go_simp
                                    refine (HW.out _ ?_ ?_).mono ?_
                                    · exact hcm7.below hF0
                                    · exact hO7.rd.below hF0
                                    rintro e x5 ⟨rfl, y5⟩
                                    have z5 := hF0.trans (y5.mono hF0.size)
                                    refine hK _ _ ?_
                                    clear hK K
                                    exact key_3_5 x5 z5
                                  exact AllReady.nil
                                exact AllReady.nil
                              case h2 =>
                                intro w2 hF2
                                obtain ⟨c0, c1, f0, f1⟩ := (hPC7.below hF2).facts
                                obtain ⟨c2, c3, f2, f3⟩ := (hPE7.below hF2).facts
                                refine wpAny_ready (rs := [0, 4, 5]) (by kernel_rfl) (by simp) ?_
                                refine AllReady.cons rfl (fun K hK => ?_) ?_
                                · go_simp
                                  refine hK _ _ ?_
                                  clear hK K
                                  refine wpAny_listed (listed' := _) ?_ (key_0_3 w2 hF2)
                                  kernel_rfl
                                refine AllReady.cons rfl (fun K hK => ?_) ?_
                                · go_simp
                                  refine (Sfrac_any W 1 W 1 _ HK.out (by decide) (by omega) (by omega) (by decide)).mono ?_
                                  rintro e x6 ⟨rfl, y6⟩
                                  have z6 := hF2.trans (y6.mono hF2.size)
                                  refine hK _ _ ?_
                                  clear hK K
                                  exact key_3_4 x6 z6
                                refine AllReady.cons rfl (fun K hK => ?_) ?_
                                · go_simp
                                  refine hK _ _ ?_
                                  clear hK K
                                  refine wpAny_listed (listed' := _) ?_ (key_3_5 w2 hF2)
                                  kernel_rfl
                                exact AllReady.nil
                            case h2 =>
                              intro w2 hF2
                              obtain ⟨c0, c1, f0, f1⟩ := (hPC7.below hF2).facts
                              obtain ⟨c2, c3, f2, f3⟩ := (hPE7.below hF2).facts
                              refine wpAny_ready (rs := [4, 5]) (by kernel_rfl) (by simp) ?_
                              refine AllReady.cons rfl (fun K hK => ?_) ?_
                              · go_simp
                                refine (Sfrac_any W 1 W 1 _ HK.out (by decide) (by omega) (by omega) (by decide)).mono ?_
                                rintro e x7 ⟨rfl, y7⟩
                                have z7 := hF2.trans (y7.mono hF2.size)
                                refine hK _ _ ?_
                                clear hK K
                                exact key_0_3_4 x7 z7
                              refine AllReady.cons rfl (fun K hK => ?_) ?_
                              · go_simp
                                refine hK _ _ ?_
                                clear hK K
                                refine wpAny_listed (listed' := _) ?_ (key_0_3_5 w2 hF2)
                                kernel_rfl
                              exact AllReady.nil
                          case h2 =>
                            intro w2 hF2
                            obtain ⟨c0, c1, f0, f1⟩ := (hPC7.below hF2).facts
                            obtain ⟨c2, c3, f2, f3⟩ := (hPE7.below hF2).facts
                            refine wpAny_ready (rs := [0, 4]) (by kernel_rfl) (by simp) ?_
                            refine AllReady.cons rfl (fun K hK => ?_) ?_
                            · go_simp
                              refine hK _ _ ?_
                              clear hK K
                              refine wpAny_listed (listed' := _) ?_ (key_0_3_5 w2 hF2)
                              kernel_rfl
                            refine AllReady.cons rfl (fun K hK => ?_) ?_
                            · go_simp
                              refine (Sfrac_any W 1 W 1 _ HK.out (by decide) (by omega) (by omega) (by decide)).mono ?_
                              rintro e x8 ⟨rfl, y8⟩
                              have z8 := hF2.trans (y8.mono hF2.size)
                              refine hK _ _ ?_
                              clear hK K
                              exact key_3_4_5 x8 z8
                            exact AllReady.nil
                        case h2 =>
                          intro w2 hF2
                          obtain ⟨c0, c1, f0, f1⟩ := (hPC7.below hF2).facts
                          obtain ⟨c2, c3, f2, f3⟩ := (hPE7.below hF2).facts
                          refine wpAny_ready (rs := [4]) (by kernel_rfl) (by simp) ?_
                          refine AllReady.cons rfl (fun K hK => ?_) ?_
                          · go_simp
                            refine (Sfrac_any W 1 W 1 _ HK.out (by decide) (by omega) (by omega) (by decide)).mono ?_
                            rintro e x9 ⟨rfl, y9⟩
                            have z9 := hF2.trans (y9.mono hF2.size)
                            refine hK _ _ ?_
                            clear hK K
                            exact key_0_3_4_5 x9 z9
                          exact AllReady.nil
                      case h2 =>
                        intro w2 hF2
                        obtain ⟨c0, c1, f0, f1⟩ := (hPC7.below hF2).facts
                        obtain ⟨c2, c3, f2, f3⟩ := (hPE7.below hF2).facts
                        refine wpAny_ready (rs := [0, 5]) (by kernel_rfl) (by simp) ?_
                        refine AllReady.cons rfl (fun K hK => ?_) ?_
                        · go_simp
                          refine hK _ _ ?_
                          clear hK K
                          refine wpAny_listed (listed' := _) ?_ (key_0_3_4 w2 hF2)
                          kernel_rfl
                        refine AllReady.cons rfl (fun K hK => ?_) ?_
                        · go_simp
                          refine hK _ _ ?_
                          clear hK K
                          refine wpAny_listed (listed' := _) ?_ (key_3_4_5 w2 hF2)
                          kernel_rfl
                        exact AllReady.nil
                    case h2 =>
                      intro w2 hF2
                      obtain ⟨c0, c1, f0, f1⟩ := (hPC7.below hF2).facts
                      obtain ⟨c2, c3, f2, f3⟩ := (hPE7.below hF2).facts
                      refine wpAny_ready (rs := [5]) (by kernel_rfl) (by simp) ?_
                      refine AllReady.cons rfl (fun K hK => ?_) ?_
                      · go_simp
                        refine hK _ _ ?_
                        clear hK K
                        refine wpAny_listed (listed' := _) ?_ (key_0_3_4_5 w2 hF2)
                        kernel_rfl
                      exact AllReady.nil
                  case h2 =>
                    intro w2 hF2
                    obtain ⟨c0, c1, f0, f1⟩ := (hPC7.below hF2).facts
                    obtain ⟨c2, c3, f2, f3⟩ := (hPE7.below hF2).facts
                    refine wpAny_ready (rs := [0, 6]) (by kernel_rfl) (by simp) ?_
                    refine AllReady.cons rfl (fun K hK => ?_) ?_
                    · go_simp
                      refine hK _ _ ?_
                      clear hK K
                      refine wpAny_listed (listed' := _) ?_ (key_0_3_4_5 w2 hF2)
                      kernel_rfl
                    refine AllReady.cons rfl (fun K hK => ?_) ?_
                    · go_simp
                      refine (Stimes_any W 1 vn vd tn td _ HTM.out (by omega) (by omega) (by omega) (by omega)).mono ?_
                      rintro e x10 ⟨rfl, y10⟩
                      have z10 := hF2.trans (y10.mono hF2.size)
                      refine hK _ _ ?_
                      clear hK K
                      exact key_3_4_5_6 x10 z10
                    exact AllReady.nil
                case h2 =>
                  intro w2 hF2
                  obtain ⟨c0, c1, f0, f1⟩ := (hPC7.below hF2).facts
                  obtain ⟨c2, c3, f2, f3⟩ := (hPE7.below hF2).facts
                  refine wpAny_ready (rs := [6]) (by kernel_rfl) (by simp) ?_
                  refine AllReady.cons rfl (fun K hK => ?_) ?_
                  · go_simp
                    refine (Stimes_any W 1 vn vd tn td _ HTM.out (by omega) (by omega) (by omega) (by omega)).mono ?_
                    rintro e x11 ⟨rfl, y11⟩
                    have z11 := hF2.trans (y11.mono hF2.size)
                    refine hK _ _ ?_
                    clear hK K
                    exact key_0_3_4_5_6 x11 z11
                  exact AllReady.nil
              case h2 =>
                intro w2 hF2
                obtain ⟨c0, c1, f0, f1⟩ := (hPC7.below hF2).facts
                obtain ⟨c2, c3, f2, f3⟩ := (hPE7.below hF2).facts
                refine wpAny_ready (rs := [0]) (by kernel_rfl) (by simp) ?_
                refine AllReady.cons rfl (fun K hK => ?_) ?_
                · go_simp
                  refine hK _ _ ?_
                  clear hK K
                  refine wpAny_listed (listed' := _) ?_ (key_0_3_4_5_6 w2 hF2)
                  kernel_rfl
                exact AllReady.nil
            case h2 =>
              intro w2 hF2
              obtain ⟨c0, c1, f0, f1⟩ := (hPC7.below hF2).facts
              obtain ⟨c2, c3, f2, f3⟩ := (hPE7.below hF2).facts
              refine wpAny_ready (rs := [7]) (by kernel_rfl) (by simp) ?_
              refine AllReady.cons rfl (fun K hK => ?_) ?_
              · go_simp
                refine (Splus_any x y tn td n' d' _ HPL2.out (by omega) (by omega) (by omega) (by omega) (by omega) (by omega)).mono ?_
                rintro e x12 ⟨rfl, y12⟩
                have z12 := hF2.trans (y12.mono hF2.size)
                refine hK _ _ ?_
                clear hK K
                exact key_0_3_4_5_6_7 x12 z12
              exact AllReady.nil
          case h2 =>
            intro w2 hF2
            obtain ⟨c0, c1, f0, f1⟩ := (hPC7.below hF2).facts
            obtain ⟨c2, c3, f2, f3⟩ := (hPE7.below hF2).facts
            unfold frV
            refine wpAny_ready (rs := [8]) (by kernel_rfl) (by simp) ?_
            refine AllReady.cons rfl (fun K hK => ?_) ?_
            · go_simp
              refine hK _ _ ?_
              clear hK K
              refine wpAny_done (by kernel_rfl) ?_ _
              have B5 := below_set2 (B := C) (hb7.trans (hF2.mono hb7.size)) (Nat.le_of_lt hCl) (.int .i64 n') (.int .i64 d')
              have hPC5 := (hPC7.below hF2).set_ n' d'
              have hPR5 := (hPR7.below hF2).other (Nat.ne_of_lt hCl) (.int .i64 n') (.int .i64 d')
              have hO5 : Own ((w2.setCell ⟨C, 0, none⟩ (.int .i64 n')).setCell ⟨C, 1, none⟩ (.int .i64 d')) (C + 1) (some ⟨g, 0, none⟩) cg ys :=
                World.ownsRow.kept (World.ownsRow.kept (hO7.below hF2) (grow_set w2 C 0 (.int .i64 n')) (.inr (own_ne hO7))) (grow_set _ C 1 (.int .i64 d')) (.inr (own_ne hO7))
              have hOI5 : OwnF ((w2.setCell ⟨C, 0, none⟩ (.int .i64 n')).setCell ⟨C, 1, none⟩ (.int .i64 d')) (w.heap.size + 1) (some ⟨gi, 0, none⟩) ci ps :=
                World.ownsRow.kept (World.ownsRow.kept (hOI7.below hF2) (grow_set w2 C 0 (.int .i64 n')) (.inr (gi_ne hgi))) (grow_set _ C 1 (.int .i64 d')) (.inr (gi_ne hgi))
              generalize (w2.setCell ⟨C, 0, none⟩ (.int .i64 n')).setCell ⟨C, 1, none⟩ (.int .i64 d') = w5 at *
              have hl5 : C + 1 ≤ w5.heap.size := hPC5.lt
              go_wp2_with fail
              refine (HX.out _ hO5.rd).mono ?_
              rintro e w6 (⟨zs, g6, c6, HN, rfl, o6, b6⟩ | ⟨HN, rfl, b6⟩)
              · obtain ⟨hf6, hll6⟩ := HF.out.next HN
                have HE5 := FN.out
                rw [HN] at HE5
                have HE6 := Lib.hid HE5
                have HL6 := Lib.hid hll6
                have HF6 := Lib.hid hf6
                have B6 := below_up B5 b6
                have o6' := o6.base hl5
                have hPR6 := hPR5.below b6
                have hPC6 := hPC5.below b6
                have hOI6 := hOI5.below b6
                have hn1 := HN1.out
                clear hf6 hll6 HN HE5 o6
                go_wp2
                go_roundw
                case rel => exact ⟨n', d', _, k + 1, B6, hPR6, hPC6, hOI6, HSS, .inl ⟨g6, c6, zs, rfl, o6', HF6, HE6⟩⟩
                case measure =>
                  rw [HL.out, roundsLeft_own o6' (by have := HF6.out.1; omega)]
                  have := HL6.out
                  omega
              · have HE5 := FN.out
                rw [HN] at HE5
                have HE6 := Lib.hid HE5
                have B6 := below_up B5 b6
                have hPR6 := hPR5.below b6
                have hPC6 := hPC5.below b6
                have hOI6 := hOI5.below b6
                clear HN HE5
                go_wp2
                go_roundw
                case rel => exact ⟨n', d', _, k + 1, B6, hPR6, hPC6, hOI6, HSS, .inr ⟨rfl, HE6⟩⟩
                case measure => rw [HL.out, roundsLeft_nil]; omega
            exact AllReady.nil

    · have HE2 := Lib.hid (show x = N ∧ y = M by have := HS.out; rw [HE.out.done] at this; exact this.same HQ.out)
      obtain ⟨c0, c1, f0, f1⟩ := hPC.facts
      obtain ⟨c2, c3, f2, f3⟩ := hPR.facts
      go_wp2
      obtain ⟨g0, g1, _, _⟩ := (hPR.set_ x y).facts
      have hB := below_set2 hb (Nat.le_refl _) (.int .i64 x) (.int .i64 y)
      obtain ⟨rfl, rfl⟩ := HE2.out
      refine bodyPost_ret (v := .tuple #[frV x y, .bool true]) (by simp [results, Try.results40, go_sem, frV, g0, g1]) rfl ⟨rfl, hB⟩
end Go.Proofs.Ytoipjhdnmiomeaa

/-
  Chapter 2, the program: the terms of VirtualRevenue and of BestRevenue.
-/
namespace Go.Proofs.Ytoipjhdnmiomeaa
open Go.RowKit

set_option maxHeartbeats 2000000 in
theorem virtTerm_any (A : Option Addr) (c : Nat) (xs vs : List Int) (n : Nat) (W r N M : Int) (br bx gv cv : Nat) (w : World) (h : Rd w A c vs) (hv : vW xs = true) (hf : Fit (xs.length - 1) n vs) (hn1 : 1 ≤ n) (hn : n ≤ 3) (hr0 : 0 ≤ r) (hW0 : 0 ≤ W) (hW1 : W ≤ 216)
    (hc : w.cell? ⟨br, 0, none⟩ = some (.int .i64 r)) (hcx : w.cell? ⟨bx, 0, none⟩ = some (.slice (some ⟨gv, 0, none⟩) xs.length cv)) (hp : RdF w (some ⟨gv, 0, none⟩) cv (frL (virtL xs)))
    (hq : FrIs ((W : Rat) * virtG xs r vs) N M) :
    Calls Try.prog 73 #[.slice A vs.length c, .int .i64 W, .pointer (some ⟨br, 0, none⟩), .pointer (some ⟨bx, 0, none⟩)] w fun e w' => e = .returned (frV N M) ∧ Below w.heap.size w w' := by
  obtain ⟨l1, l2⟩ := vW_le hv
  have hl := hf.1
  have hl1 : 1 ≤ vs.length := by omega
  have hl2 : vs.length ≤ 1099511627776 := by omega
  have hB := below_al w (.cells #[.int .i64 0, .int .i64 0] 30)
  have hk := PairAt.new (w := w) (x := 0) (y := 0)
  obtain ⟨q, hq'⟩ := (⟨_, rfl⟩ : ∃ q, q = atOf vs r)
  have HQ := Lib.hid hq'
  have hc1 := (hB.cell (p := ⟨br, 0, none⟩) (World.block_lt_of_cell? w _ hc)).trans hc
  have hc2 := (hB.cell (p := ⟨bx, 0, none⟩) (World.block_lt_of_cell? w _ hcx)).trans hcx
  have h1 := h.below hB
  have hp1 := hp.below hB
  have HQQ := Lib.hid hq
  rcases at_cases (vs := vs) hl1 hr0 with ⟨a, u, ha, hu, _, _, hg⟩ | ⟨ha, _, hg⟩
  · have hq2 : q = (a : Int) := by rw [hq', ha]
    have hal := (List.getElem?_eq_some_iff.1 hu).1
    obtain ⟨v, rfl, hvl⟩ := (hf.inV l1).at_ hu
    have hgv : virtG xs r vs = virtQ xs v := by unfold virtG; rw [hg]; simp
    obtain ⟨vn, hvn⟩ : ∃ n, n = (virtQ xs v).num := ⟨_, rfl⟩
    obtain ⟨vd, hvd⟩ : ∃ d, d = ((virtQ xs v).den : Int) := ⟨_, rfl⟩
    have hvq : FrIs (virtQ xs v) vn vd := ⟨hvn, hvd⟩
    obtain ⟨v1, v2, v3, v4⟩ := virt_bd hv hvl hvq
    have HTM := Lib.hid (fr_times (k := W) hvq (by rw [← hgv]; exact hq))
    obtain ⟨m1, m2⟩ := mul_bd (d := W + 1) v1 v2 (by omega) (show W + 1 ≤ 217 by omega) (by omega)
    have m3 : -7812 ≤ vn * W ∧ vn * W ≤ 7812 := by
      rw [Int.mul_add, Int.mul_one] at m1 m2
      have := Int.mul_le_mul_of_nonneg_right v2 hW0
      have := Int.mul_le_mul_of_nonneg_right v1 hW0
      omega
    have hgp := frL_get (virtL_at hvl) hvq
    obtain ⟨b', x', y', hbe, _, hxy, k1, k2⟩ := hp1.at_ (k := v) (by rw [frL_len, virtL_len]; exact hvl)
    obtain rfl : gv = b' := by injection hbe with hbe; injection hbe
    obtain ⟨rfl, rfl⟩ : x' = vn ∧ y' = vd := by have := hxy.out.symm.trans hgp; simp at this; exact this
    obtain ⟨b1, off1, rfl⟩ := h.open1 hl1
    have k3 := h1.cell hu
    rw [hq2] at HQ
    have hlt : decide ((a : Int) < 0) = false := by simp
    have hal2 : (a : Int) < (vs.length : Int) := by omega
    have hvl2 : (v : Int) < (xs.length : Int) := by omega
    clear hu ha hq' hq2 hg hgv hvn hvd hvq hbe hxy hgp hp hp1 hq m1 m2 hl
    go_enter Try.func73, Try.ntmps73
    go_wp2_with fail
    refine (winnerOf_n _ _ vs r _ rfl HQ.out h1 hl1 hl2).mono ?_
    rintro e w1 ⟨rfl, rfl⟩
    go_wp2_with fail
    refine region_tail 8 (by kernel_rfl) (by kernel_rfl) ?_
    simp only [List.take_succ_cons, List.take_zero, List.drop_succ_cons, List.drop_zero]
    iterate 8 (refine wpStill_step (fun K hK => ?_); go_simp; (try go_bits); refine hK _ ?_; clear hK K)
    refine wpStill_nil ?_
    go_wp2_with fail
    refine (times_any x' y' W N M _ HTM.out (by omega) (by omega) (by omega) (by omega)).mono ?_
    rintro e w1 ⟨rfl, hb⟩
    have hk1 := hk.below (show Below (w.alloc (.cells #[.int .i64 0, .int .i64 0] 30)).heap.size (w.alloc (.cells #[.int .i64 0, .int .i64 0] 30)) w1 from (Below.refl _ _).drew.trans hb)
    obtain ⟨c0, c1, f0, f1⟩ := hk1.facts
    unfold frV
    go_wp2
    obtain ⟨e0, e1, _, _⟩ := (hk1.set_ N M).facts
    have hB2 := pair_below2 (a := w) (B := w.heap.size) (.int .i64 N) (.int .i64 M) hb (below_al w _).drew (Nat.le_refl _)
    refine bodyPost_ret (v := frV N M) (by simp [results, Try.results73, go_sem, frV, e0, e1]) rfl ⟨rfl, hB2⟩
  · have hq2 : q = -1 := by rw [hq', ha]
    have hz : FrIs (0 : Rat) N M := by
      have : (W : Rat) * virtG xs r vs = 0 := by unfold virtG; rw [hg]; simp
      rwa [this] at hq
    obtain ⟨rfl, rfl⟩ : N = 0 ∧ M = 1 := hz.same (FrIs.int 0)
    rw [hq2] at HQ
    clear ha hq' hq2 hg hz hq hp hp1 hl
    go_enter Try.func73, Try.ntmps73
    go_wp2_with fail
    refine (winnerOf_n _ _ vs r _ rfl HQ.out h1 hl1 hl2).mono ?_
    rintro e w1 ⟨rfl, rfl⟩
    go_wp2_with fail
    refine (wholeOf_any 0 _).mono ?_
    rintro e w1 ⟨rfl, hb⟩
    have hk1 := hk.below hb
    obtain ⟨c0, c1, f0, f1⟩ := hk1.facts
    unfold frV
    go_wp2
    obtain ⟨e0, e1, _, _⟩ := (hk1.set_ 0 1).facts
    have hB2 := pair_below2 (a := w) (B := w.heap.size) (.int .i64 0) (.int .i64 1) hb hB (Nat.le_refl _)
    refine bodyPost_ret (v := frV 0 1) (by simp [results, Try.results73, go_sem, frV, e0, e1]) rfl ⟨rfl, hB2⟩

set_option maxHeartbeats 4000000 in
theorem bestTerm_any (A : Option Addr) (c : Nat) (xs vs : List Int) (n : Nat) (W N M : Int) (bx gv cv : Nat) (w : World) (h : Rd w A c vs) (hv : vW xs = true) (hf : Fit (xs.length - 1) n vs) (hn1 : 1 ≤ n) (hn : n ≤ 3) (hW0 : 0 ≤ W) (hW1 : W ≤ 216)
    (hcx : w.cell? ⟨bx, 0, none⟩ = some (.slice (some ⟨gv, 0, none⟩) xs.length cv)) (hp : RdF w (some ⟨gv, 0, none⟩) cv (frL (ironed xs)))
    (hq : FrIs ((W : Rat) * ironG xs vs) N M) :
    Calls Try.prog 78 #[.slice A vs.length c, .int .i64 W, .pointer (some ⟨bx, 0, none⟩)] w fun e w' => e = .returned (frV N M) ∧ Below w.heap.size w w' := by
  obtain ⟨l1, l2⟩ := vW_le hv
  have hl := hf.1
  have hl1 : 1 ≤ vs.length := by omega
  have hl2 : vs.length ≤ 1099511627776 := by omega
  have hl3 : vs.length ≤ 3 := by omega
  have HIV := Lib.hid (hf.inV l1)
  obtain ⟨D', e1, e2, hD'⟩ := iron_sc (vW_valid hv)
  have HTS := Lib.hid (fun vs (hi : InV xs vs) n d (hf : FrIs (ironG xs vs) n d) => show -10077696 ≤ n ∧ n ≤ 10077696 ∧ 1 ≤ d ∧ d ≤ 46656 by
    have := (top_sc e1 hD' vs hi).bd e1 hf
    omega)
  have HIS := Lib.hid (fun v (hi : v < xs.length) n d (hf : FrIs (ironAt xs v) n d) => show -10077696 ≤ n ∧ n ≤ 10077696 ∧ 1 ≤ d ∧ d ≤ 46656 by
    have := (hD' v hi).bd e1 hf
    omega)
  have hB := below_al w (.cells #[.int .i64 0, .int .i64 0] 30)
  have hk := PairAt.new (w := w) (x := 0) (y := 0)
  have HQQ := Lib.hid hq
  have HCX := Lib.hid hcx
  have HP := Lib.hid hp
  clear hq hcx hp hl hf hD'
  go_enter Try.func78, Try.ntmps78
  go_wp2_with fail
  refine (wholeOf_any 0 _).mono ?_
  rintro e w2 ⟨rfl, hb⟩
  have hk2 := hk.below hb
  have hB2 := below_up hB hb
  have hlw : w.heap.size < w2.heap.size := hk2.lt
  clear hk hb hB
  unfold frV
  go_wp2_with fail
  have hP02 : PairAt (w2.alloc (.cells #[.int .i64 0, .int .i64 1] 30)) w.heap.size 0 0 := hk2.old _
  rename World => w9
  go_loopw [12] (fun i wr => ∃ (j : Nat) (bx' by' : Int), j ≤ vs.length ∧ i = .int .i64 j ∧ Below w9.heap.size w9 wr ∧ PairAt wr w9.heap.size bx' by' ∧ Hid (FrIs (ironG xs (vs.take j)) bx' by')) (fun i _ => vs.length - (intOf i).toNat)
  case atStart => exact ⟨0, 0, 1, Nat.zero_le _, rfl, below_al _ _, PairAt.new, Lib.hid (FrIs.int 0)⟩
  case round =>
    obtain ⟨j, bx', by', hj, rfl, hbi, hPE, HB⟩ := hrel
    have hB02 := below_up hB2 hbi
    obtain ⟨t0, t1, t2, t3⟩ := HTS.out _ (HIV.out.take j) _ _ HB.out
    by_cases hjn : j < vs.length
    · obtain ⟨b1, off1, u, rfl, hb1, hu, k1⟩ := (h.below hB02).at_ hjn
      obtain ⟨v, rfl, hvl⟩ := HIV.out.at_ hu.out
      obtain ⟨qn, hqn⟩ : ∃ n, n = (ironAt xs v).num := ⟨_, rfl⟩
      obtain ⟨qd, hqd⟩ : ∃ d, d = ((ironAt xs v).den : Int) := ⟨_, rfl⟩
      have hqq : FrIs (ironAt xs v) qn qd := ⟨hqn, hqd⟩
      obtain ⟨v0, v1, v2, v3⟩ := HIS.out v hvl _ _ hqq
      have hgg : (ironed xs)[v]? = some (ironAt xs v) := by
        have h : v < (ironed xs).length := by rw [ironed_len]; exact hvl
        unfold ironAt
        rw [List.getD_eq_getElem?_getD, List.getElem?_eq_getElem h]; rfl
      have hg := frL_get hgg hqq
      have HGG := Lib.hid hg
      have hst := iron_step (xs := xs) hu.out
      obtain ⟨m1, m2⟩ := mul_bd t0 t1 v2 v3 (by omega)
      obtain ⟨m3, m4⟩ := mul_bd v0 v1 t2 t3 (by omega)
      have hbxl := World.block_lt_of_cell? w _ HCX.out
      have hcx1 := (hB02.cell (p := ⟨bx, 0, none⟩) hbxl).trans HCX.out
      have HRF := Lib.hid (fun w3 (hb3 : Below w.heap.size w w3) => show w3.cell? ⟨gv, v * 2, none⟩ = some (.int .i64 qn) ∧ w3.cell? ⟨gv, v * 2 + 1, none⟩ = some (.int .i64 qd) by
        obtain ⟨b', x', y', hbe, _, hxy, k1, k2⟩ := (HP.out.below hb3).at_ (k := v) (by rw [frL_len, ironed_len]; exact hvl)
        obtain rfl : gv = b' := by injection hbe with hbe; injection hbe
        obtain ⟨rfl, rfl⟩ : x' = qn ∧ y' = qd := by have := hxy.out.symm.trans HGG.out; simp at this; exact this
        exact ⟨k1, k2⟩)
      obtain ⟨k2, k3⟩ := HRF.out _ hB02
      obtain ⟨c0, c1, f0, f1⟩ := hPE.facts
      have hvi : (v : Int) < (xs.length : Int) := by omega
      by_cases hlt : ironG xs (vs.take j) < ironAt xs v
      · have HLL := Lib.hid (show lessF bx' by' qn qd = true by rw [lessF_is HB.out hqq]; simpa using hlt)
        have HB3 : Hid (FrIs (ironG xs (vs.take (j + 1))) qn qd) := Lib.hid (by
          rw [hst, show max (ironG xs (vs.take j)) (ironAt xs v) = ironAt xs v by grind]; exact hqq)
        clear hu hqn hqd hqq hgg hg hst hlt
        go_wp2_with fail
        refine region_tail 5 (by kernel_rfl) (by kernel_rfl) ?_
        simp only [List.take_succ_cons, List.take_zero, List.drop_succ_cons, List.drop_zero]
        iterate 5 (refine wpStill_step (fun K hK => ?_); go_simp; (try go_bits); refine hK _ ?_; clear hK K)
        refine wpStill_nil ?_
        go_wp2_with fail
        refine (less_any bx' by' qn qd true _ HLL.out (by omega) (by omega) (by omega) (by omega)).mono ?_
        rintro e w6 ⟨rfl, hb6⟩
        have hwr6 : Below wr.heap.size wr w6 := (Below.refl _ wr).drew.trans hb6
        have hbi6 := hbi.drew.trans (hb6.mono hbi.size)
        have hPE6 := hPE.below hwr6
        have hcx6 := (hwr6.cell (p := ⟨bx, 0, none⟩) (World.block_lt_of_cell? wr _ hcx1)).trans hcx1
        obtain ⟨k26, k36⟩ := HRF.out _ (below_up hB02 hwr6)
        obtain ⟨d0, d1, g0, g1⟩ := hPE6.facts
        have hPE7 := hPE6.set_ qn qd
        have hbi7 := below_set2 hbi6 (Nat.le_refl _) (.int .i64 qn) (.int .i64 qd)
        go_wp2
        go_roundw
        case rel => exact ⟨j + 1, qn, qd, by omega, by go_num, hbi7, hPE7, HB3⟩
        case measure => simp [intOf] <;> omega
      · have HLL := Lib.hid (show lessF bx' by' qn qd = false by rw [lessF_is HB.out hqq]; simpa using hlt)
        have HB3 : Hid (FrIs (ironG xs (vs.take (j + 1))) bx' by') := Lib.hid (by
          rw [hst, show max (ironG xs (vs.take j)) (ironAt xs v) = ironG xs (vs.take j) by grind]; exact HB.out)
        clear hu hqn hqd hqq hgg hg hst hlt
        go_wp2_with fail
        refine region_tail 5 (by kernel_rfl) (by kernel_rfl) ?_
        simp only [List.take_succ_cons, List.take_zero, List.drop_succ_cons, List.drop_zero]
        iterate 5 (refine wpStill_step (fun K hK => ?_); go_simp; (try go_bits); refine hK _ ?_; clear hK K)
        refine wpStill_nil ?_
        go_wp2_with fail
        refine (less_any bx' by' qn qd false _ HLL.out (by omega) (by omega) (by omega) (by omega)).mono ?_
        rintro e w6 ⟨rfl, hb6⟩
        have hwr6 : Below wr.heap.size wr w6 := (Below.refl _ wr).drew.trans hb6
        have hbi6 := hbi.drew.trans (hb6.mono hbi.size)
        have hPE6 := hPE.below hwr6
        go_wp2
        go_roundw
        case rel => exact ⟨j + 1, bx', by', by omega, by go_num, hbi6, hPE6, HB3⟩
        case measure => simp [intOf] <;> omega
    · obtain rfl : j = vs.length := by omega
      have hB' : FrIs (ironG xs vs) bx' by' := by
        have := HB.out
        rwa [List.take_length] at this
      have HTM := Lib.hid (fr_times (k := W) hB' HQQ.out)
      obtain ⟨m1, m2⟩ := mul_bd t0 t1 (show 1 ≤ W + 1 by omega) (show W + 1 ≤ 217 by omega) (by omega)
      have m3 := Int.mul_le_mul_of_nonneg_right t1 hW0
      have m4 := Int.mul_le_mul_of_nonneg_right t0 hW0
      have m5 : 10077696 * W ≤ 10077696 * 216 := by omega
      obtain ⟨c0, c1, f0, f1⟩ := hPE.facts
      have hPR := hk2.below hbi
      obtain ⟨c2, c3, f2, f3⟩ := hPR.facts
      clear hB' HB m1 m2
      go_wp2_with fail
      refine (times_any bx' by' W N M _ HTM.out (by omega) (by omega) (by omega) (by omega)).mono ?_
      rintro e w6 ⟨rfl, hb6⟩
      have hPR6 := hPR.below hb6
      obtain ⟨d0, d1, g0, g1⟩ := hPR6.facts
      unfold frV
      go_wp2
      obtain ⟨e0, e1, _, _⟩ := (hPR6.set_ N M).facts
      have hB6 := below_set2 (below_up hB02 hb6) (Nat.le_refl _) (.int .i64 N) (.int .i64 M)
      refine bodyPost_ret (v := frV N M) (by simp [results, Try.results78, go_sem, frV, e0, e1]) rfl ⟨rfl, hB6⟩
end Go.Proofs.Ytoipjhdnmiomeaa

/-
  Chapter 2, the program: the contract of termsOf at fractions.
-/
namespace Go.Proofs.Ytoipjhdnmiomeaa
open Go.RowKit Go.Shelf
attribute [local go_sem] Oper.semAt_some

def tq (xs : List Int) (g : List Int → Rat) (vs : List Int) : Int × Int := ((termQ xs g vs).num, ((termQ xs g vs).den : Int))
theorem cell_two_new (w : World) (x y : Value) (t : TypeId) : ∀ j u, [x, y][j]? = some u → (w.alloc (.cells #[x, y] t)).cell? ((⟨w.heap.size, 0, none⟩ : Addr).add j) = some u := by
  intro j u hu
  match j, hu with
  | 0, hu =>
    simp at hu
    subst hu
    show (w.alloc (.cells #[x, y] t)).cell? ⟨w.heap.size, 0, none⟩ = _
    rw [cell_of_row _ w.heap.size 0 _ _ _ (heap_alloc_new w _)]; rfl
  | 1, hu =>
    simp at hu
    subst hu
    show (w.alloc (.cells #[x, y] t)).cell? ⟨w.heap.size, 1, none⟩ = _
    rw [cell_of_row _ w.heap.size 1 _ _ _ (heap_alloc_new w _)]; rfl
  | j + 2, hu => simp at hu

set_option maxRecDepth 100000 in
set_option maxHeartbeats 4000000 in
theorem termsV_any (b off c : Nat) (xs : List Int) (n br bx : Nat) (g : List Int → Rat) (w : World) (h : Rd w (some ⟨b, off, none⟩) c xs) (hv : vW xs = true) (hn1 : 1 ≤ n) (hn : n ≤ 3)
    (HCALL : ∀ (ys : List Int) (gb cg : Nat) (W2 : World), Below w.heap.size w W2 → Rd W2 (some ⟨gb, 0, none⟩) cg ys → Fit (xs.length - 1) n ys →
      Calls Try.prog 73 #[.slice (some ⟨gb, 0, none⟩) ys.length cg, .int .i64 (waysF xs ys), .pointer (some ⟨br, 0, none⟩), .pointer (some ⟨bx, 0, none⟩)] W2 fun e w' => e = .returned (frV (termQ xs g ys).num ((termQ xs g ys).den : Int)) ∧ Below W2.heap.size W2 w') :
    Calls Try.prog 72 #[.slice (some ⟨b, off, none⟩) xs.length c, .int .i64 n, .func (.func 73) #[] #[.pointer (some ⟨br, 0, none⟩), .pointer (some ⟨bx, 0, none⟩)]] w fun e w' =>
      ∃ A c' zs, e = .returned (.slice A zs.length c') ∧ OwnF w' w.heap.size A c' zs ∧ zs = restOf (tq xs g) (xs.length - 1) (some (List.replicate n 0)) ∧ Below w.heap.size w w' := by
  refine (callsIn_wide (n := 5)).1 ?_
  obtain ⟨l1, l2⟩ := vW_le hv
  obtain ⟨top, ht⟩ : ∃ top, top = xs.length - 1 := ⟨_, rfl⟩
  have HV := Lib.hid hv
  have HT := Lib.hid ht
  have ht5 : top ≤ 5 := by omega
  have htx : (xs.length : Int) - 1 = (top : Int) := by omega
  have htw : IntKind.i64.wrap (top : Int) = (top : Int) := IntWalk.i64_in _ (by omega)
  obtain ⟨i0, hi, hz0, hz1, hz2⟩ := info_parts frac_info
  clear hv ht
  have B0 : Below w.heap.size w (((((w.alloc (.cells #[.slice (some ⟨b, off, none⟩) xs.length c] 23)).alloc (.cells #[.func (.func 73) #[] #[.pointer (some ⟨br, 0, none⟩), .pointer (some ⟨bx, 0, none⟩)]] 55)).alloc (.cells #[.slice none 0 0] 27)).alloc (.cells #[.int .i64 n] 3)).alloc (.cells #[.int .i64 top] 3)) :=
    (((((Below.refl _ w).alloc (Nat.le_refl _) _).alloc (by simp) _).alloc (by simp; omega) _).alloc (by simp; omega) _).alloc (by simp; omega) _
  have y4 := ((((Boxed.new w 23 (.slice (some ⟨b, off, none⟩) xs.length c)).alloc (.cells #[.func (.func 73) #[] #[.pointer (some ⟨br, 0, none⟩), .pointer (some ⟨bx, 0, none⟩)]] 55)).alloc (.cells #[.slice none 0 0] 27)).alloc (.cells #[.int .i64 n] 3)).alloc (.cells #[.int .i64 top] 3)
  have y5 := (((Boxed.new (w.alloc (.cells #[.slice (some ⟨b, off, none⟩) xs.length c] 23)) 55 (.func (.func 73) #[] #[.pointer (some ⟨br, 0, none⟩), .pointer (some ⟨bx, 0, none⟩)])).alloc (.cells #[.slice none 0 0] 27)).alloc (.cells #[.int .i64 n] 3)).alloc (.cells #[.int .i64 top] 3)
  have y8 := ((Boxed.new ((w.alloc (.cells #[.slice (some ⟨b, off, none⟩) xs.length c] 23)).alloc (.cells #[.func (.func 73) #[] #[.pointer (some ⟨br, 0, none⟩), .pointer (some ⟨bx, 0, none⟩)]] 55)) 27 (.slice none 0 0)).alloc (.cells #[.int .i64 n] 3)).alloc (.cells #[.int .i64 top] 3)
  have yn := (Boxed.new (((w.alloc (.cells #[.slice (some ⟨b, off, none⟩) xs.length c] 23)).alloc (.cells #[.func (.func 73) #[] #[.pointer (some ⟨br, 0, none⟩), .pointer (some ⟨bx, 0, none⟩)]] 55)).alloc (.cells #[.slice none 0 0] 27)) 3 (.int .i64 n)).alloc (.cells #[.int .i64 top] 3)
  have yt := Boxed.new ((((w.alloc (.cells #[.slice (some ⟨b, off, none⟩) xs.length c] 23)).alloc (.cells #[.func (.func 73) #[] #[.pointer (some ⟨br, 0, none⟩), .pointer (some ⟨bx, 0, none⟩)]] 55)).alloc (.cells #[.slice none 0 0] 27)).alloc (.cells #[.int .i64 n] 3)) 3 (.int .i64 top)
  simp only [World.size_alloc] at y4 y5 y8 yn yt
  have hs0 : (((((w.alloc (.cells #[.slice (some ⟨b, off, none⟩) xs.length c] 23)).alloc (.cells #[.func (.func 73) #[] #[.pointer (some ⟨br, 0, none⟩), .pointer (some ⟨bx, 0, none⟩)]] 55)).alloc (.cells #[.slice none 0 0] 27)).alloc (.cells #[.int .i64 n] 3)).alloc (.cells #[.int .i64 top] 3)).heap.size = w.heap.size + 5 := by simp
  refine callsIn_of_wp_marks Try.func72 rfl trivial ?_ rfl
  simp only [Try.ntmps72, List.size_toArray, List.length_cons, List.length_nil, Nat.reduceAdd, Nat.reduceSub, Array.replicate_succ, Array.replicate_zero, List.push_toArray, List.append_toArray, List.nil_append, List.cons_append]
  gi_wp2_with (first
    | (refine ⟨trivial, ?_⟩; gi_at_call 86; refine (allBids_in _ _ _).mono ?_; rintro e w3 ⟨rfl, rfl⟩))
  obtain ⟨W0, hW0⟩ : ∃ W0, (((((w.alloc (.cells #[.slice (some ⟨b, off, none⟩) xs.length c] 23)).alloc (.cells #[.func (.func 73) #[] #[.pointer (some ⟨br, 0, none⟩), .pointer (some ⟨bx, 0, none⟩)]] 55)).alloc (.cells #[.slice none 0 0] 27)).alloc (.cells #[.int .i64 n] 3)).alloc (.cells #[.int .i64 top] 3)) = W0 := ⟨_, rfl⟩
  rw [hW0] at B0 y4 y5 y8 yn yt hs0 ⊢
  clear hW0
  have hbv : b < w.heap.size := by
    obtain ⟨x, hx⟩ := at_some (xs := xs) (k := 0) (by omega)
    exact World.block_lt_of_cell? w _ (h.cell hx)
  have HRD := Lib.hid (h.below B0)
  have HB0 := Lib.hid B0
  clear h
  refine range_known (w := W0) rfl (enters_of Try.func94 (by kernel_rfl) rfl) (allBids1_iter top n (w.heap.size + 1 + 1 + 1) (w.heap.size + 1 + 1 + 1 + 1) W0 hn1 hn ht5 yn.cell yt.cell) (by omega)
    (fun s W => ∃ v zs, Coll 27 30 2 cellsF (tq xs g) (restOf (tq xs g) top (some (List.replicate n 0))) W0 (w.heap.size + 1 + 1) (W0.heap.size + 3) top v zs s W) (fun _ => False)
    (fun s => fun A C r hA hg hr => by
      obtain ⟨v, zs, hA⟩ := hA
      exact ⟨v, zs, hA.kept (by omega) hg (by rcases hr with hr | ⟨hr, _⟩ <;> omega) (hr.elim (fun e => .inl (by omega)) (fun e => .inr e.2))⟩)
    (fun _ _ _ h _ _ => h)
    ⟨_, [], y8, World.ownsRow_nil _ _ _ _, rfl, (by show 0 + (leftF _ top + 1) ≤ 1000; simpa using left_1000 hn ht5), Below.refl _ _⟩ ?a1 ?assign ?body ?done ?stop
  case assign =>
    intro l v W K hK
    gi_wp2
    exact hK
  case body =>
    rintro l ys gb cg Wp W ⟨v, zs, hIp⟩ hgp hge _ hf hgb hown
    have hI := hIp.kept (by omega) hgp (by omega) (.inl (by omega))
    have hyl := hf.1
    have hx4 : Boxed W w.heap.size 23 (.slice (some ⟨b, off, none⟩) xs.length c) := (hI.below.block _ (by omega)).trans y4
    have hx5 : Boxed W (w.heap.size + 1) 55 (.func (.func 73) #[] #[.pointer (some ⟨br, 0, none⟩), .pointer (some ⟨bx, 0, none⟩)]) := (hI.below.block _ (by omega)).trans y5
    have c4 := hx4.cell
    have c5 := hx5.cell
    have hrd : Rd W (some ⟨b, off, none⟩) c xs := by
      obtain ⟨b', off', e, hc⟩ := HRD.out.open_ l1
      injection e with e
      injection e with e1 e2
      subst e1 e2
      exact .inr ⟨_, _, rfl, fun k hk => (hI.below.cell (p := ⟨b, off + k, none⟩) (by simp; omega)).trans (by rw [hc k _ (List.getElem?_eq_getElem hk)]; simp [hk])⟩
    have HF' : Hid (Fit (xs.length - 1) n ys) := Lib.hid (by rw [← HT.out]; exact hf)
    have HIV := Lib.hid (HF'.out.inV l1)
    obtain ⟨w0, w1⟩ := ways_bd (vW_valid HV.out) ys HIV.out (by omega)
    have HIF := Lib.hid hf
    have HOW := Lib.hid hown
    have HI := Lib.hid hI
    have HRW := Lib.hid hrd
    have hpl : zs.length + 1 ≤ 1000 := by have : zs.length + (leftF ys top + 1) ≤ 1000 := hI.count; omega
    have hb63 : zs.length + 1 ≤ maxLen := by unfold maxLen; omega
    have hbx := hI.box
    have HBX := Lib.hid hbx
    have hp8 : w.heap.size + 1 + 1 < W.heap.size := hbx.lt
    have hbw : Below w.heap.size w W := HB0.out.trans (hI.below.mono (by omega))
    have hgl := hown.lt
    have hy3 : ys.length ≤ 3 := by omega
    clear hx4 hx5 hI hf hown hrd y4 y5 y8 yn yt hIp hgp hge hbx B0 hyl
    gi_wp2
    gi_loopw [9, 20] (fun s i wr => wr = W ∧ ∃ (k : Nat) (S : Int), k ≤ ys.length ∧ i = .int .i64 k ∧ s = .int .i64 S ∧ Hid (S = waysF xs (ys.take k))) (fun _ i _ => ys.length - (intOf i).toNat)
    case atStart => exact ⟨rfl, 0, 1, Nat.zero_le _, rfl, rfl, Lib.hid rfl⟩
    case round =>
      obtain ⟨hWW, k, S, hk, rfl, rfl, HS⟩ := hrel
      subst hWW
      by_cases hlt : k < ys.length
      · obtain ⟨b2, off2, x, hbe, hb2, hx, hc2⟩ := HOW.out.rd.at_ hlt
        obtain ⟨rfl, rfl⟩ : b2 = gb ∧ off2 = 0 := by injection hbe with hbe; injection hbe with e1 e2; exact ⟨e1.symm, e2.symm⟩
        rw [Nat.zero_add] at hc2
        obtain ⟨v', rfl, hvl⟩ := HIV.out.at_ hx.out
        have hst := ways_step (xs := xs) hx.out
        obtain ⟨m1, m2⟩ := ways_bd (vW_valid HV.out) _ (HIV.out.take (k + 1)) (by simp; omega)
        obtain ⟨m3, m4⟩ := ways_bd (vW_valid HV.out) _ (HIV.out.take k) (by simp; omega)
        have hc := HRW.out.cell (wt_at hvl)
        have hw1 := validW_lo (vW_valid HV.out) hvl
        have hw2 := validW_hi (vW_valid HV.out) v'
        rw [hst] at m1 m2
        rw [← HS.out] at m1 m2 m3 m4
        have HN := Lib.hid (show S * wt xs v' = waysF xs (ys.take (k + 1)) by rw [hst, HS.out])
        generalize wt xs v' = y at *
        have hvi : (v' : Int) < (xs.length : Int) := by omega
        clear hx hst hbe
        gi_wp2
        go_roundw
        case rel => exact ⟨trivial, k + 1, _, by omega, by go_num, rfl, HN⟩
        case measure => simp [intOf] <;> omega
      · obtain rfl : k = ys.length := by omega
        have hS : S = waysF xs ys := by rw [HS.out, List.take_length]
        obtain ⟨tn, htn⟩ : ∃ n, n = (termQ xs g ys).num := ⟨_, rfl⟩
        obtain ⟨td, htd⟩ : ∃ d, d = ((termQ xs g ys).den : Int) := ⟨_, rfl⟩
        have HA := Lib.hid (fun w2 h1 h2 => HCALL ys gb cg w2 h1 h2 HF'.out)
        rw [← hS, ← htn, ← htd] at HA
        have HTT := Lib.hid (show (tn, td) = tq xs g ys by rw [htn, htd]; rfl)
        clear hS htn htd HS w0 w1
        gi_wp2
        have HRG : Hid (Rd wr (some ⟨gb, 0, none⟩) cg ys) := Lib.hid HOW.out.rd
        have hbc := HBX.out.cell
        refine wpIn_region_any (by kernel_rfl) (any_in _ _ (by kernel_rfl) _ _ _ _ ?_)
        refine wpAny_take (i := 2) (v := _) rfl (by kernel_rfl) (by kernel_rfl) (by kernel_rfl) (fun _ _ _ h => h) (Or.inl ⟨by rfl, fun w => by go_simp; rfl⟩) ?_
        refine wpAny_take (i := 3) (v := _) rfl (by kernel_rfl) (by kernel_rfl) (by kernel_rfl) (fun _ _ _ h => h) (Or.inl ⟨by rfl, fun w => by go_simp; rfl⟩) ?_
        refine wpAny_ready (rs := [0, 1]) (by kernel_rfl) (by simp) ?_
        refine AllReady.cons rfl (fun K hK => ?_) ?_
        · go_simp
          refine hK _ _ ?_
          clear hK K
          refine wpAny_ready (rs := [1]) (by kernel_rfl) (by simp) ?_
          refine AllReady.cons rfl (fun K hK => ?_) ?_
          · go_simp
            refine hK _ _ ?_
            clear hK K
            refine wpAny_ready (rs := [4]) (by kernel_rfl) (by simp) ?_
            refine AllReady.cons rfl (fun K hK => ?_) ?_
            · go_simp
              refine (HA.out _ ?_ ?_).mono ?_
              · exact hbw.drew
              · exact HRG.out
              rintro e w2 ⟨rfl, b2'⟩
              unfold frV
              have b2 : Below wr.heap.size wr w2 := (Below.refl _ wr).drew.trans b2'
              have z8 : Boxed w2 (w.heap.size + 1 + 1) 27 v := (b2.block _ hp8).trans HBX.out
              have zc := z8.cell
              have za := (z8.alloc (.cells #[.int .i64 tn, .int .i64 td] 30)).cell
              have Z8 := Lib.hid z8
              have R2 := Lib.hid (own_len HI.out.row b2)
              have RA := Lib.hid (own_len R2.out ((Below.refl _ w2).alloc (Nat.le_refl _) (.cells #[.int .i64 tn, .int .i64 td] 30)))
              have hs2 := b2.size
              clear b2' z8
              refine hK _ _ ?_
              clear hK K
              refine wpAny_ready (rs := [5]) (by kernel_rfl) (by simp) ?_
              refine AllReady.cons rfl (fun K hK => ?_) ?_
              · go_simp
                refine hK _ _ ?_
                clear hK K
                refine wpAny_ready (rs := [6]) (by kernel_rfl) (by simp) ?_
                refine AllReady.cons rfl (fun K hK => ?_) ?_
                · refine step_append_lies _ rfl _ _ 27 rfl (W0.heap.size + 3) 30 i0 (.agg #[.int .i64 0, .int .i64 0]) 2 16 Try.underlying27 hi hz0 hz1 hz2 rfl (by decide) v zs.length (cellsF zs) rfl RA.out ⟨w2.heap.size, 0, none⟩ 1 1 [.int .i64 tn, .int .i64 td] rfl rfl (cell_two_new _ _ _ _) (by simp [Value.oneCell']) (by decide) hb63 (by omega) (by simp; omega) _ rfl ?_
                  intro g5 c5 w5 hown5 hg5 _ _
                  obtain ⟨hv1, hv2, hr2, hk2, hb2⟩ := Boxed.appended Z8.out (by decide) (own_base R2.out (B' := w.heap.size + 1 + 1) (by omega)) (by omega) (Nat.le_refl _) (own_base hown5 (B' := w.heap.size + 1 + 1) (by omega)) hg5
                  have hc1 := hv1.cell
                  have hf1 := hv1.frozen
                  have HV2 := Lib.hid hv2
                  have HK2 := Lib.hid hk2
                  have HB2 := Lib.hid hb2
                  have HG := Lib.hid hg5
                  have HO5 := Lib.hid hown5
                  clear hv1 hv2 hr2 hk2 hb2 hg5 hown5
                  refine hK _ _ ?_
                  clear hK K
                  refine wpAny_ready (rs := [7]) (by kernel_rfl) (by simp) ?_
                  refine AllReady.cons rfl (fun K hK => ?_) ?_
                  · go_simp
                    refine hK _ _ ?_
                    clear hK K
                    refine wpAny_done (by kernel_rfl) ?_ _
                    refine ⟨(keeps_below' b2).trans HK2.out, fun k hk => ?_, _, zs ++ [(tn, td)], ⟨HV2.out, ?_, ?_, ?_, HI.out.below.trans ((b2.mono (by omega)).trans HB2.out)⟩⟩
                    · have hkW : k < wr.heap.size := by omega
                      rw [Below.heap_setCell _ _ _ k (by simp; omega), HG.out.block k (by simp; omega) (fun e => by have := (World.ownsRow.lt R2.out k e.symm).1; omega), Below.heap_alloc _ _ k (by omega)]
                      exact b2.block k hkW
                    · have := World.ownsRow.kept HO5.out (grow_set w5 (w.heap.size + 1 + 1) 0 (.slice (some ⟨g5, 0, none⟩) (zs.length + 1) c5)) (.inr (fun e => by have := (World.ownsRow.lt HO5.out _ e).1; omega))
                      rw [cellsF_app, List.length_append]
                      exact this
                    · rw [HI.out.at_, restOf_next HIF.out, ← HTT.out]; simp
                    · have := HI.out.count.next HIF.out
                      simpa using this
                  exact AllReady.nil
                exact AllReady.nil
              exact AllReady.nil
            exact AllReady.nil
          exact AllReady.nil
        refine AllReady.cons rfl (fun K hK => ?_) ?_
        · go_simp
          refine hK _ _ ?_
          clear hK K
          refine wpAny_ready (rs := [0, 4]) (by kernel_rfl) (by simp) ?_
          refine AllReady.cons rfl (fun K hK => ?_) ?_
          · go_simp
            refine hK _ _ ?_
            clear hK K
            refine wpAny_ready (rs := [4]) (by kernel_rfl) (by simp) ?_
            refine AllReady.cons rfl (fun K hK => ?_) ?_
            · go_simp
              refine (HA.out _ ?_ ?_).mono ?_
              · exact hbw.drew
              · exact HRG.out
              rintro e w2 ⟨rfl, b2'⟩
              unfold frV
              have b2 : Below wr.heap.size wr w2 := (Below.refl _ wr).drew.trans b2'
              have z8 : Boxed w2 (w.heap.size + 1 + 1) 27 v := (b2.block _ hp8).trans HBX.out
              have zc := z8.cell
              have za := (z8.alloc (.cells #[.int .i64 tn, .int .i64 td] 30)).cell
              have Z8 := Lib.hid z8
              have R2 := Lib.hid (own_len HI.out.row b2)
              have RA := Lib.hid (own_len R2.out ((Below.refl _ w2).alloc (Nat.le_refl _) (.cells #[.int .i64 tn, .int .i64 td] 30)))
              have hs2 := b2.size
              clear b2' z8
              refine hK _ _ ?_
              clear hK K
              refine wpAny_ready (rs := [5]) (by kernel_rfl) (by simp) ?_
              refine AllReady.cons rfl (fun K hK => ?_) ?_
              · go_simp
                refine hK _ _ ?_
                clear hK K
                refine wpAny_ready (rs := [6]) (by kernel_rfl) (by simp) ?_
                refine AllReady.cons rfl (fun K hK => ?_) ?_
                · refine step_append_lies _ rfl _ _ 27 rfl (W0.heap.size + 3) 30 i0 (.agg #[.int .i64 0, .int .i64 0]) 2 16 Try.underlying27 hi hz0 hz1 hz2 rfl (by decide) v zs.length (cellsF zs) rfl RA.out ⟨w2.heap.size, 0, none⟩ 1 1 [.int .i64 tn, .int .i64 td] rfl rfl (cell_two_new _ _ _ _) (by simp [Value.oneCell']) (by decide) hb63 (by omega) (by simp; omega) _ rfl ?_
                  intro g5 c5 w5 hown5 hg5 _ _
                  obtain ⟨hv1, hv2, hr2, hk2, hb2⟩ := Boxed.appended Z8.out (by decide) (own_base R2.out (B' := w.heap.size + 1 + 1) (by omega)) (by omega) (Nat.le_refl _) (own_base hown5 (B' := w.heap.size + 1 + 1) (by omega)) hg5
                  have hc1 := hv1.cell
                  have hf1 := hv1.frozen
                  have HV2 := Lib.hid hv2
                  have HK2 := Lib.hid hk2
                  have HB2 := Lib.hid hb2
                  have HG := Lib.hid hg5
                  have HO5 := Lib.hid hown5
                  clear hv1 hv2 hr2 hk2 hb2 hg5 hown5
                  refine hK _ _ ?_
                  clear hK K
                  refine wpAny_ready (rs := [7]) (by kernel_rfl) (by simp) ?_
                  refine AllReady.cons rfl (fun K hK => ?_) ?_
                  · go_simp
                    refine hK _ _ ?_
                    clear hK K
                    refine wpAny_done (by kernel_rfl) ?_ _
                    refine ⟨(keeps_below' b2).trans HK2.out, fun k hk => ?_, _, zs ++ [(tn, td)], ⟨HV2.out, ?_, ?_, ?_, HI.out.below.trans ((b2.mono (by omega)).trans HB2.out)⟩⟩
                    · have hkW : k < wr.heap.size := by omega
                      rw [Below.heap_setCell _ _ _ k (by simp; omega), HG.out.block k (by simp; omega) (fun e => by have := (World.ownsRow.lt R2.out k e.symm).1; omega), Below.heap_alloc _ _ k (by omega)]
                      exact b2.block k hkW
                    · have := World.ownsRow.kept HO5.out (grow_set w5 (w.heap.size + 1 + 1) 0 (.slice (some ⟨g5, 0, none⟩) (zs.length + 1) c5)) (.inr (fun e => by have := (World.ownsRow.lt HO5.out _ e).1; omega))
                      rw [cellsF_app, List.length_append]
                      exact this
                    · rw [HI.out.at_, restOf_next HIF.out, ← HTT.out]; simp
                    · have := HI.out.count.next HIF.out
                      simpa using this
                  exact AllReady.nil
                exact AllReady.nil
              exact AllReady.nil
            exact AllReady.nil
          refine AllReady.cons rfl (fun K hK => ?_) ?_
          · go_simp
            refine (HA.out _ ?_ ?_).mono ?_
            · exact hbw.drew
            · exact HRG.out
            rintro e w2 ⟨rfl, b2'⟩
            unfold frV
            have b2 : Below wr.heap.size wr w2 := (Below.refl _ wr).drew.trans b2'
            have z8 : Boxed w2 (w.heap.size + 1 + 1) 27 v := (b2.block _ hp8).trans HBX.out
            have zc := z8.cell
            have za := (z8.alloc (.cells #[.int .i64 tn, .int .i64 td] 30)).cell
            have Z8 := Lib.hid z8
            have R2 := Lib.hid (own_len HI.out.row b2)
            have RA := Lib.hid (own_len R2.out ((Below.refl _ w2).alloc (Nat.le_refl _) (.cells #[.int .i64 tn, .int .i64 td] 30)))
            have hs2 := b2.size
            clear b2' z8
            refine hK _ _ ?_
            clear hK K
            refine wpAny_ready (rs := [0, 5]) (by kernel_rfl) (by simp) ?_
            refine AllReady.cons rfl (fun K hK => ?_) ?_
            · go_simp
              refine hK _ _ ?_
              clear hK K
              refine wpAny_ready (rs := [5]) (by kernel_rfl) (by simp) ?_
              refine AllReady.cons rfl (fun K hK => ?_) ?_
              · go_simp
                refine hK _ _ ?_
                clear hK K
                refine wpAny_ready (rs := [6]) (by kernel_rfl) (by simp) ?_
                refine AllReady.cons rfl (fun K hK => ?_) ?_
                · refine step_append_lies _ rfl _ _ 27 rfl (W0.heap.size + 3) 30 i0 (.agg #[.int .i64 0, .int .i64 0]) 2 16 Try.underlying27 hi hz0 hz1 hz2 rfl (by decide) v zs.length (cellsF zs) rfl RA.out ⟨w2.heap.size, 0, none⟩ 1 1 [.int .i64 tn, .int .i64 td] rfl rfl (cell_two_new _ _ _ _) (by simp [Value.oneCell']) (by decide) hb63 (by omega) (by simp; omega) _ rfl ?_
                  intro g5 c5 w5 hown5 hg5 _ _
                  obtain ⟨hv1, hv2, hr2, hk2, hb2⟩ := Boxed.appended Z8.out (by decide) (own_base R2.out (B' := w.heap.size + 1 + 1) (by omega)) (by omega) (Nat.le_refl _) (own_base hown5 (B' := w.heap.size + 1 + 1) (by omega)) hg5
                  have hc1 := hv1.cell
                  have hf1 := hv1.frozen
                  have HV2 := Lib.hid hv2
                  have HK2 := Lib.hid hk2
                  have HB2 := Lib.hid hb2
                  have HG := Lib.hid hg5
                  have HO5 := Lib.hid hown5
                  clear hv1 hv2 hr2 hk2 hb2 hg5 hown5
                  refine hK _ _ ?_
                  clear hK K
                  refine wpAny_ready (rs := [7]) (by kernel_rfl) (by simp) ?_
                  refine AllReady.cons rfl (fun K hK => ?_) ?_
                  · go_simp
                    refine hK _ _ ?_
                    clear hK K
                    refine wpAny_done (by kernel_rfl) ?_ _
                    refine ⟨(keeps_below' b2).trans HK2.out, fun k hk => ?_, _, zs ++ [(tn, td)], ⟨HV2.out, ?_, ?_, ?_, HI.out.below.trans ((b2.mono (by omega)).trans HB2.out)⟩⟩
                    · have hkW : k < wr.heap.size := by omega
                      rw [Below.heap_setCell _ _ _ k (by simp; omega), HG.out.block k (by simp; omega) (fun e => by have := (World.ownsRow.lt R2.out k e.symm).1; omega), Below.heap_alloc _ _ k (by omega)]
                      exact b2.block k hkW
                    · have := World.ownsRow.kept HO5.out (grow_set w5 (w.heap.size + 1 + 1) 0 (.slice (some ⟨g5, 0, none⟩) (zs.length + 1) c5)) (.inr (fun e => by have := (World.ownsRow.lt HO5.out _ e).1; omega))
                      rw [cellsF_app, List.length_append]
                      exact this
                    · rw [HI.out.at_, restOf_next HIF.out, ← HTT.out]; simp
                    · have := HI.out.count.next HIF.out
                      simpa using this
                  exact AllReady.nil
                exact AllReady.nil
              exact AllReady.nil
            refine AllReady.cons rfl (fun K hK => ?_) ?_
            · go_simp
              refine hK _ _ ?_
              clear hK K
              refine wpAny_ready (rs := [0]) (by kernel_rfl) (by simp) ?_
              refine AllReady.cons rfl (fun K hK => ?_) ?_
              · go_simp
                refine hK _ _ ?_
                clear hK K
                refine wpAny_ready (rs := [6]) (by kernel_rfl) (by simp) ?_
                refine AllReady.cons rfl (fun K hK => ?_) ?_
                · refine step_append_lies _ rfl _ _ 27 rfl (W0.heap.size + 3) 30 i0 (.agg #[.int .i64 0, .int .i64 0]) 2 16 Try.underlying27 hi hz0 hz1 hz2 rfl (by decide) v zs.length (cellsF zs) rfl RA.out ⟨w2.heap.size, 0, none⟩ 1 1 [.int .i64 tn, .int .i64 td] rfl rfl (cell_two_new _ _ _ _) (by simp [Value.oneCell']) (by decide) hb63 (by omega) (by simp; omega) _ rfl ?_
                  intro g5 c5 w5 hown5 hg5 _ _
                  obtain ⟨hv1, hv2, hr2, hk2, hb2⟩ := Boxed.appended Z8.out (by decide) (own_base R2.out (B' := w.heap.size + 1 + 1) (by omega)) (by omega) (Nat.le_refl _) (own_base hown5 (B' := w.heap.size + 1 + 1) (by omega)) hg5
                  have hc1 := hv1.cell
                  have hf1 := hv1.frozen
                  have HV2 := Lib.hid hv2
                  have HK2 := Lib.hid hk2
                  have HB2 := Lib.hid hb2
                  have HG := Lib.hid hg5
                  have HO5 := Lib.hid hown5
                  clear hv1 hv2 hr2 hk2 hb2 hg5 hown5
                  refine hK _ _ ?_
                  clear hK K
                  refine wpAny_ready (rs := [7]) (by kernel_rfl) (by simp) ?_
                  refine AllReady.cons rfl (fun K hK => ?_) ?_
                  · go_simp
                    refine hK _ _ ?_
                    clear hK K
                    refine wpAny_done (by kernel_rfl) ?_ _
                    refine ⟨(keeps_below' b2).trans HK2.out, fun k hk => ?_, _, zs ++ [(tn, td)], ⟨HV2.out, ?_, ?_, ?_, HI.out.below.trans ((b2.mono (by omega)).trans HB2.out)⟩⟩
                    · have hkW : k < wr.heap.size := by omega
                      rw [Below.heap_setCell _ _ _ k (by simp; omega), HG.out.block k (by simp; omega) (fun e => by have := (World.ownsRow.lt R2.out k e.symm).1; omega), Below.heap_alloc _ _ k (by omega)]
                      exact b2.block k hkW
                    · have := World.ownsRow.kept HO5.out (grow_set w5 (w.heap.size + 1 + 1) 0 (.slice (some ⟨g5, 0, none⟩) (zs.length + 1) c5)) (.inr (fun e => by have := (World.ownsRow.lt HO5.out _ e).1; omega))
                      rw [cellsF_app, List.length_append]
                      exact this
                    · rw [HI.out.at_, restOf_next HIF.out, ← HTT.out]; simp
                    · have := HI.out.count.next HIF.out
                      simpa using this
                  exact AllReady.nil
                exact AllReady.nil
              exact AllReady.nil
            exact AllReady.nil
          exact AllReady.nil
        exact AllReady.nil
  case done =>
    rintro D W hD ⟨v, zs, hI⟩ hK
    have hc := hI.box.cell
    gi_wp2
    refine ⟨by simp, .inl ⟨_, _, rfl, run_takeDeferred hK, ?_⟩⟩
    have hI2 := hI.kept (by omega) (grownBy_putObj' W D (.deferred none)) (by omega) (.inr ⟨_, hK, rfl⟩)
    have hva : ∃ A c', v = .slice A zs.length c' := by
      rcases hI2.row.2 with ⟨rfl, h0⟩ | ⟨g, cap, cur, rfl, _⟩
      · exact ⟨none, 0, by rw [h0]⟩
      · exact ⟨_, _, rfl⟩
    obtain ⟨A, c', rfl⟩ := hva
    have hat := hI2.at_
    rw [HT.out] at hat
    simp only [restOf, List.append_nil] at hat
    exact ⟨_, results_tmp rfl _ _ _, A, c', zs, rfl, own_base hI2.row (by omega), hat.symm, B0.trans (hI2.below.mono (by omega))⟩
  case stop =>
    rintro D W _ h _
    exact h.elim
set_option maxRecDepth 100000 in
set_option maxHeartbeats 4000000 in
theorem termsB_any (b off c : Nat) (xs : List Int) (n bx : Nat) (g : List Int → Rat) (w : World) (h : Rd w (some ⟨b, off, none⟩) c xs) (hv : vW xs = true) (hn1 : 1 ≤ n) (hn : n ≤ 3)
    (HCALL : ∀ (ys : List Int) (gb cg : Nat) (W2 : World), Below w.heap.size w W2 → Rd W2 (some ⟨gb, 0, none⟩) cg ys → Fit (xs.length - 1) n ys →
      Calls Try.prog 78 #[.slice (some ⟨gb, 0, none⟩) ys.length cg, .int .i64 (waysF xs ys), .pointer (some ⟨bx, 0, none⟩)] W2 fun e w' => e = .returned (frV (termQ xs g ys).num ((termQ xs g ys).den : Int)) ∧ Below W2.heap.size W2 w') :
    Calls Try.prog 72 #[.slice (some ⟨b, off, none⟩) xs.length c, .int .i64 n, .func (.func 78) #[] #[.pointer (some ⟨bx, 0, none⟩)]] w fun e w' =>
      ∃ A c' zs, e = .returned (.slice A zs.length c') ∧ OwnF w' w.heap.size A c' zs ∧ zs = restOf (tq xs g) (xs.length - 1) (some (List.replicate n 0)) ∧ Below w.heap.size w w' := by
  refine (callsIn_wide (n := 5)).1 ?_
  obtain ⟨l1, l2⟩ := vW_le hv
  obtain ⟨top, ht⟩ : ∃ top, top = xs.length - 1 := ⟨_, rfl⟩
  have HV := Lib.hid hv
  have HT := Lib.hid ht
  have ht5 : top ≤ 5 := by omega
  have htx : (xs.length : Int) - 1 = (top : Int) := by omega
  have htw : IntKind.i64.wrap (top : Int) = (top : Int) := IntWalk.i64_in _ (by omega)
  obtain ⟨i0, hi, hz0, hz1, hz2⟩ := info_parts frac_info
  clear hv ht
  have B0 : Below w.heap.size w (((((w.alloc (.cells #[.slice (some ⟨b, off, none⟩) xs.length c] 23)).alloc (.cells #[.func (.func 78) #[] #[.pointer (some ⟨bx, 0, none⟩)]] 55)).alloc (.cells #[.slice none 0 0] 27)).alloc (.cells #[.int .i64 n] 3)).alloc (.cells #[.int .i64 top] 3)) :=
    (((((Below.refl _ w).alloc (Nat.le_refl _) _).alloc (by simp) _).alloc (by simp; omega) _).alloc (by simp; omega) _).alloc (by simp; omega) _
  have y4 := ((((Boxed.new w 23 (.slice (some ⟨b, off, none⟩) xs.length c)).alloc (.cells #[.func (.func 78) #[] #[.pointer (some ⟨bx, 0, none⟩)]] 55)).alloc (.cells #[.slice none 0 0] 27)).alloc (.cells #[.int .i64 n] 3)).alloc (.cells #[.int .i64 top] 3)
  have y5 := (((Boxed.new (w.alloc (.cells #[.slice (some ⟨b, off, none⟩) xs.length c] 23)) 55 (.func (.func 78) #[] #[.pointer (some ⟨bx, 0, none⟩)])).alloc (.cells #[.slice none 0 0] 27)).alloc (.cells #[.int .i64 n] 3)).alloc (.cells #[.int .i64 top] 3)
  have y8 := ((Boxed.new ((w.alloc (.cells #[.slice (some ⟨b, off, none⟩) xs.length c] 23)).alloc (.cells #[.func (.func 78) #[] #[.pointer (some ⟨bx, 0, none⟩)]] 55)) 27 (.slice none 0 0)).alloc (.cells #[.int .i64 n] 3)).alloc (.cells #[.int .i64 top] 3)
  have yn := (Boxed.new (((w.alloc (.cells #[.slice (some ⟨b, off, none⟩) xs.length c] 23)).alloc (.cells #[.func (.func 78) #[] #[.pointer (some ⟨bx, 0, none⟩)]] 55)).alloc (.cells #[.slice none 0 0] 27)) 3 (.int .i64 n)).alloc (.cells #[.int .i64 top] 3)
  have yt := Boxed.new ((((w.alloc (.cells #[.slice (some ⟨b, off, none⟩) xs.length c] 23)).alloc (.cells #[.func (.func 78) #[] #[.pointer (some ⟨bx, 0, none⟩)]] 55)).alloc (.cells #[.slice none 0 0] 27)).alloc (.cells #[.int .i64 n] 3)) 3 (.int .i64 top)
  simp only [World.size_alloc] at y4 y5 y8 yn yt
  have hs0 : (((((w.alloc (.cells #[.slice (some ⟨b, off, none⟩) xs.length c] 23)).alloc (.cells #[.func (.func 78) #[] #[.pointer (some ⟨bx, 0, none⟩)]] 55)).alloc (.cells #[.slice none 0 0] 27)).alloc (.cells #[.int .i64 n] 3)).alloc (.cells #[.int .i64 top] 3)).heap.size = w.heap.size + 5 := by simp
  refine callsIn_of_wp_marks Try.func72 rfl trivial ?_ rfl
  simp only [Try.ntmps72, List.size_toArray, List.length_cons, List.length_nil, Nat.reduceAdd, Nat.reduceSub, Array.replicate_succ, Array.replicate_zero, List.push_toArray, List.append_toArray, List.nil_append, List.cons_append]
  gi_wp2_with (first
    | (refine ⟨trivial, ?_⟩; gi_at_call 86; refine (allBids_in _ _ _).mono ?_; rintro e w3 ⟨rfl, rfl⟩))
  obtain ⟨W0, hW0⟩ : ∃ W0, (((((w.alloc (.cells #[.slice (some ⟨b, off, none⟩) xs.length c] 23)).alloc (.cells #[.func (.func 78) #[] #[.pointer (some ⟨bx, 0, none⟩)]] 55)).alloc (.cells #[.slice none 0 0] 27)).alloc (.cells #[.int .i64 n] 3)).alloc (.cells #[.int .i64 top] 3)) = W0 := ⟨_, rfl⟩
  rw [hW0] at B0 y4 y5 y8 yn yt hs0 ⊢
  clear hW0
  have hbv : b < w.heap.size := by
    obtain ⟨x, hx⟩ := at_some (xs := xs) (k := 0) (by omega)
    exact World.block_lt_of_cell? w _ (h.cell hx)
  have HRD := Lib.hid (h.below B0)
  have HB0 := Lib.hid B0
  clear h
  refine range_known (w := W0) rfl (enters_of Try.func94 (by kernel_rfl) rfl) (allBids1_iter top n (w.heap.size + 1 + 1 + 1) (w.heap.size + 1 + 1 + 1 + 1) W0 hn1 hn ht5 yn.cell yt.cell) (by omega)
    (fun s W => ∃ v zs, Coll 27 30 2 cellsF (tq xs g) (restOf (tq xs g) top (some (List.replicate n 0))) W0 (w.heap.size + 1 + 1) (W0.heap.size + 3) top v zs s W) (fun _ => False)
    (fun s => fun A C r hA hg hr => by
      obtain ⟨v, zs, hA⟩ := hA
      exact ⟨v, zs, hA.kept (by omega) hg (by rcases hr with hr | ⟨hr, _⟩ <;> omega) (hr.elim (fun e => .inl (by omega)) (fun e => .inr e.2))⟩)
    (fun _ _ _ h _ _ => h)
    ⟨_, [], y8, World.ownsRow_nil _ _ _ _, rfl, (by show 0 + (leftF _ top + 1) ≤ 1000; simpa using left_1000 hn ht5), Below.refl _ _⟩ ?a1 ?assign ?body ?done ?stop
  case assign =>
    intro l v W K hK
    gi_wp2
    exact hK
  case body =>
    rintro l ys gb cg Wp W ⟨v, zs, hIp⟩ hgp hge _ hf hgb hown
    have hI := hIp.kept (by omega) hgp (by omega) (.inl (by omega))
    have hyl := hf.1
    have hx4 : Boxed W w.heap.size 23 (.slice (some ⟨b, off, none⟩) xs.length c) := (hI.below.block _ (by omega)).trans y4
    have hx5 : Boxed W (w.heap.size + 1) 55 (.func (.func 78) #[] #[.pointer (some ⟨bx, 0, none⟩)]) := (hI.below.block _ (by omega)).trans y5
    have c4 := hx4.cell
    have c5 := hx5.cell
    have hrd : Rd W (some ⟨b, off, none⟩) c xs := by
      obtain ⟨b', off', e, hc⟩ := HRD.out.open_ l1
      injection e with e
      injection e with e1 e2
      subst e1 e2
      exact .inr ⟨_, _, rfl, fun k hk => (hI.below.cell (p := ⟨b, off + k, none⟩) (by simp; omega)).trans (by rw [hc k _ (List.getElem?_eq_getElem hk)]; simp [hk])⟩
    have HF' : Hid (Fit (xs.length - 1) n ys) := Lib.hid (by rw [← HT.out]; exact hf)
    have HIV := Lib.hid (HF'.out.inV l1)
    obtain ⟨w0, w1⟩ := ways_bd (vW_valid HV.out) ys HIV.out (by omega)
    have HIF := Lib.hid hf
    have HOW := Lib.hid hown
    have HI := Lib.hid hI
    have HRW := Lib.hid hrd
    have hpl : zs.length + 1 ≤ 1000 := by have : zs.length + (leftF ys top + 1) ≤ 1000 := hI.count; omega
    have hb63 : zs.length + 1 ≤ maxLen := by unfold maxLen; omega
    have hbx := hI.box
    have HBX := Lib.hid hbx
    have hp8 : w.heap.size + 1 + 1 < W.heap.size := hbx.lt
    have hbw : Below w.heap.size w W := HB0.out.trans (hI.below.mono (by omega))
    have hgl := hown.lt
    have hy3 : ys.length ≤ 3 := by omega
    clear hx4 hx5 hI hf hown hrd y4 y5 y8 yn yt hIp hgp hge hbx B0 hyl
    gi_wp2
    gi_loopw [9, 20] (fun s i wr => wr = W ∧ ∃ (k : Nat) (S : Int), k ≤ ys.length ∧ i = .int .i64 k ∧ s = .int .i64 S ∧ Hid (S = waysF xs (ys.take k))) (fun _ i _ => ys.length - (intOf i).toNat)
    case atStart => exact ⟨rfl, 0, 1, Nat.zero_le _, rfl, rfl, Lib.hid rfl⟩
    case round =>
      obtain ⟨hWW, k, S, hk, rfl, rfl, HS⟩ := hrel
      subst hWW
      by_cases hlt : k < ys.length
      · obtain ⟨b2, off2, x, hbe, hb2, hx, hc2⟩ := HOW.out.rd.at_ hlt
        obtain ⟨rfl, rfl⟩ : b2 = gb ∧ off2 = 0 := by injection hbe with hbe; injection hbe with e1 e2; exact ⟨e1.symm, e2.symm⟩
        rw [Nat.zero_add] at hc2
        obtain ⟨v', rfl, hvl⟩ := HIV.out.at_ hx.out
        have hst := ways_step (xs := xs) hx.out
        obtain ⟨m1, m2⟩ := ways_bd (vW_valid HV.out) _ (HIV.out.take (k + 1)) (by simp; omega)
        obtain ⟨m3, m4⟩ := ways_bd (vW_valid HV.out) _ (HIV.out.take k) (by simp; omega)
        have hc := HRW.out.cell (wt_at hvl)
        have hw1 := validW_lo (vW_valid HV.out) hvl
        have hw2 := validW_hi (vW_valid HV.out) v'
        rw [hst] at m1 m2
        rw [← HS.out] at m1 m2 m3 m4
        have HN := Lib.hid (show S * wt xs v' = waysF xs (ys.take (k + 1)) by rw [hst, HS.out])
        generalize wt xs v' = y at *
        have hvi : (v' : Int) < (xs.length : Int) := by omega
        clear hx hst hbe
        gi_wp2
        go_roundw
        case rel => exact ⟨trivial, k + 1, _, by omega, by go_num, rfl, HN⟩
        case measure => simp [intOf] <;> omega
      · obtain rfl : k = ys.length := by omega
        have hS : S = waysF xs ys := by rw [HS.out, List.take_length]
        obtain ⟨tn, htn⟩ : ∃ n, n = (termQ xs g ys).num := ⟨_, rfl⟩
        obtain ⟨td, htd⟩ : ∃ d, d = ((termQ xs g ys).den : Int) := ⟨_, rfl⟩
        have HA := Lib.hid (fun w2 h1 h2 => HCALL ys gb cg w2 h1 h2 HF'.out)
        rw [← hS, ← htn, ← htd] at HA
        have HTT := Lib.hid (show (tn, td) = tq xs g ys by rw [htn, htd]; rfl)
        clear hS htn htd HS w0 w1
        gi_wp2
        have HRG : Hid (Rd wr (some ⟨gb, 0, none⟩) cg ys) := Lib.hid HOW.out.rd
        have hbc := HBX.out.cell
        refine wpIn_region_any (by kernel_rfl) (any_in _ _ (by kernel_rfl) _ _ _ _ ?_)
        refine wpAny_take (i := 2) (v := _) rfl (by kernel_rfl) (by kernel_rfl) (by kernel_rfl) (fun _ _ _ h => h) (Or.inl ⟨by rfl, fun w => by go_simp; rfl⟩) ?_
        refine wpAny_take (i := 3) (v := _) rfl (by kernel_rfl) (by kernel_rfl) (by kernel_rfl) (fun _ _ _ h => h) (Or.inl ⟨by rfl, fun w => by go_simp; rfl⟩) ?_
        refine wpAny_ready (rs := [0, 1]) (by kernel_rfl) (by simp) ?_
        refine AllReady.cons rfl (fun K hK => ?_) ?_
        · go_simp
          refine hK _ _ ?_
          clear hK K
          refine wpAny_ready (rs := [1]) (by kernel_rfl) (by simp) ?_
          refine AllReady.cons rfl (fun K hK => ?_) ?_
          · go_simp
            refine hK _ _ ?_
            clear hK K
            refine wpAny_ready (rs := [4]) (by kernel_rfl) (by simp) ?_
            refine AllReady.cons rfl (fun K hK => ?_) ?_
            · go_simp
              refine (HA.out _ ?_ ?_).mono ?_
              · exact hbw.drew
              · exact HRG.out
              rintro e w2 ⟨rfl, b2'⟩
              unfold frV
              have b2 : Below wr.heap.size wr w2 := (Below.refl _ wr).drew.trans b2'
              have z8 : Boxed w2 (w.heap.size + 1 + 1) 27 v := (b2.block _ hp8).trans HBX.out
              have zc := z8.cell
              have za := (z8.alloc (.cells #[.int .i64 tn, .int .i64 td] 30)).cell
              have Z8 := Lib.hid z8
              have R2 := Lib.hid (own_len HI.out.row b2)
              have RA := Lib.hid (own_len R2.out ((Below.refl _ w2).alloc (Nat.le_refl _) (.cells #[.int .i64 tn, .int .i64 td] 30)))
              have hs2 := b2.size
              clear b2' z8
              refine hK _ _ ?_
              clear hK K
              refine wpAny_ready (rs := [5]) (by kernel_rfl) (by simp) ?_
              refine AllReady.cons rfl (fun K hK => ?_) ?_
              · go_simp
                refine hK _ _ ?_
                clear hK K
                refine wpAny_ready (rs := [6]) (by kernel_rfl) (by simp) ?_
                refine AllReady.cons rfl (fun K hK => ?_) ?_
                · refine step_append_lies _ rfl _ _ 27 rfl (W0.heap.size + 3) 30 i0 (.agg #[.int .i64 0, .int .i64 0]) 2 16 Try.underlying27 hi hz0 hz1 hz2 rfl (by decide) v zs.length (cellsF zs) rfl RA.out ⟨w2.heap.size, 0, none⟩ 1 1 [.int .i64 tn, .int .i64 td] rfl rfl (cell_two_new _ _ _ _) (by simp [Value.oneCell']) (by decide) hb63 (by omega) (by simp; omega) _ rfl ?_
                  intro g5 c5 w5 hown5 hg5 _ _
                  obtain ⟨hv1, hv2, hr2, hk2, hb2⟩ := Boxed.appended Z8.out (by decide) (own_base R2.out (B' := w.heap.size + 1 + 1) (by omega)) (by omega) (Nat.le_refl _) (own_base hown5 (B' := w.heap.size + 1 + 1) (by omega)) hg5
                  have hc1 := hv1.cell
                  have hf1 := hv1.frozen
                  have HV2 := Lib.hid hv2
                  have HK2 := Lib.hid hk2
                  have HB2 := Lib.hid hb2
                  have HG := Lib.hid hg5
                  have HO5 := Lib.hid hown5
                  clear hv1 hv2 hr2 hk2 hb2 hg5 hown5
                  refine hK _ _ ?_
                  clear hK K
                  refine wpAny_ready (rs := [7]) (by kernel_rfl) (by simp) ?_
                  refine AllReady.cons rfl (fun K hK => ?_) ?_
                  · go_simp
                    refine hK _ _ ?_
                    clear hK K
                    refine wpAny_done (by kernel_rfl) ?_ _
                    refine ⟨(keeps_below' b2).trans HK2.out, fun k hk => ?_, _, zs ++ [(tn, td)], ⟨HV2.out, ?_, ?_, ?_, HI.out.below.trans ((b2.mono (by omega)).trans HB2.out)⟩⟩
                    · have hkW : k < wr.heap.size := by omega
                      rw [Below.heap_setCell _ _ _ k (by simp; omega), HG.out.block k (by simp; omega) (fun e => by have := (World.ownsRow.lt R2.out k e.symm).1; omega), Below.heap_alloc _ _ k (by omega)]
                      exact b2.block k hkW
                    · have := World.ownsRow.kept HO5.out (grow_set w5 (w.heap.size + 1 + 1) 0 (.slice (some ⟨g5, 0, none⟩) (zs.length + 1) c5)) (.inr (fun e => by have := (World.ownsRow.lt HO5.out _ e).1; omega))
                      rw [cellsF_app, List.length_append]
                      exact this
                    · rw [HI.out.at_, restOf_next HIF.out, ← HTT.out]; simp
                    · have := HI.out.count.next HIF.out
                      simpa using this
                  exact AllReady.nil
                exact AllReady.nil
              exact AllReady.nil
            exact AllReady.nil
          exact AllReady.nil
        refine AllReady.cons rfl (fun K hK => ?_) ?_
        · go_simp
          refine hK _ _ ?_
          clear hK K
          refine wpAny_ready (rs := [0, 4]) (by kernel_rfl) (by simp) ?_
          refine AllReady.cons rfl (fun K hK => ?_) ?_
          · go_simp
            refine hK _ _ ?_
            clear hK K
            refine wpAny_ready (rs := [4]) (by kernel_rfl) (by simp) ?_
            refine AllReady.cons rfl (fun K hK => ?_) ?_
            · go_simp
              refine (HA.out _ ?_ ?_).mono ?_
              · exact hbw.drew
              · exact HRG.out
              rintro e w2 ⟨rfl, b2'⟩
              unfold frV
              have b2 : Below wr.heap.size wr w2 := (Below.refl _ wr).drew.trans b2'
              have z8 : Boxed w2 (w.heap.size + 1 + 1) 27 v := (b2.block _ hp8).trans HBX.out
              have zc := z8.cell
              have za := (z8.alloc (.cells #[.int .i64 tn, .int .i64 td] 30)).cell
              have Z8 := Lib.hid z8
              have R2 := Lib.hid (own_len HI.out.row b2)
              have RA := Lib.hid (own_len R2.out ((Below.refl _ w2).alloc (Nat.le_refl _) (.cells #[.int .i64 tn, .int .i64 td] 30)))
              have hs2 := b2.size
              clear b2' z8
              refine hK _ _ ?_
              clear hK K
              refine wpAny_ready (rs := [5]) (by kernel_rfl) (by simp) ?_
              refine AllReady.cons rfl (fun K hK => ?_) ?_
              · go_simp
                refine hK _ _ ?_
                clear hK K
                refine wpAny_ready (rs := [6]) (by kernel_rfl) (by simp) ?_
                refine AllReady.cons rfl (fun K hK => ?_) ?_
                · refine step_append_lies _ rfl _ _ 27 rfl (W0.heap.size + 3) 30 i0 (.agg #[.int .i64 0, .int .i64 0]) 2 16 Try.underlying27 hi hz0 hz1 hz2 rfl (by decide) v zs.length (cellsF zs) rfl RA.out ⟨w2.heap.size, 0, none⟩ 1 1 [.int .i64 tn, .int .i64 td] rfl rfl (cell_two_new _ _ _ _) (by simp [Value.oneCell']) (by decide) hb63 (by omega) (by simp; omega) _ rfl ?_
                  intro g5 c5 w5 hown5 hg5 _ _
                  obtain ⟨hv1, hv2, hr2, hk2, hb2⟩ := Boxed.appended Z8.out (by decide) (own_base R2.out (B' := w.heap.size + 1 + 1) (by omega)) (by omega) (Nat.le_refl _) (own_base hown5 (B' := w.heap.size + 1 + 1) (by omega)) hg5
                  have hc1 := hv1.cell
                  have hf1 := hv1.frozen
                  have HV2 := Lib.hid hv2
                  have HK2 := Lib.hid hk2
                  have HB2 := Lib.hid hb2
                  have HG := Lib.hid hg5
                  have HO5 := Lib.hid hown5
                  clear hv1 hv2 hr2 hk2 hb2 hg5 hown5
                  refine hK _ _ ?_
                  clear hK K
                  refine wpAny_ready (rs := [7]) (by kernel_rfl) (by simp) ?_
                  refine AllReady.cons rfl (fun K hK => ?_) ?_
                  · go_simp
                    refine hK _ _ ?_
                    clear hK K
                    refine wpAny_done (by kernel_rfl) ?_ _
                    refine ⟨(keeps_below' b2).trans HK2.out, fun k hk => ?_, _, zs ++ [(tn, td)], ⟨HV2.out, ?_, ?_, ?_, HI.out.below.trans ((b2.mono (by omega)).trans HB2.out)⟩⟩
                    · have hkW : k < wr.heap.size := by omega
                      rw [Below.heap_setCell _ _ _ k (by simp; omega), HG.out.block k (by simp; omega) (fun e => by have := (World.ownsRow.lt R2.out k e.symm).1; omega), Below.heap_alloc _ _ k (by omega)]
                      exact b2.block k hkW
                    · have := World.ownsRow.kept HO5.out (grow_set w5 (w.heap.size + 1 + 1) 0 (.slice (some ⟨g5, 0, none⟩) (zs.length + 1) c5)) (.inr (fun e => by have := (World.ownsRow.lt HO5.out _ e).1; omega))
                      rw [cellsF_app, List.length_append]
                      exact this
                    · rw [HI.out.at_, restOf_next HIF.out, ← HTT.out]; simp
                    · have := HI.out.count.next HIF.out
                      simpa using this
                  exact AllReady.nil
                exact AllReady.nil
              exact AllReady.nil
            exact AllReady.nil
          refine AllReady.cons rfl (fun K hK => ?_) ?_
          · go_simp
            refine (HA.out _ ?_ ?_).mono ?_
            · exact hbw.drew
            · exact HRG.out
            rintro e w2 ⟨rfl, b2'⟩
            unfold frV
            have b2 : Below wr.heap.size wr w2 := (Below.refl _ wr).drew.trans b2'
            have z8 : Boxed w2 (w.heap.size + 1 + 1) 27 v := (b2.block _ hp8).trans HBX.out
            have zc := z8.cell
            have za := (z8.alloc (.cells #[.int .i64 tn, .int .i64 td] 30)).cell
            have Z8 := Lib.hid z8
            have R2 := Lib.hid (own_len HI.out.row b2)
            have RA := Lib.hid (own_len R2.out ((Below.refl _ w2).alloc (Nat.le_refl _) (.cells #[.int .i64 tn, .int .i64 td] 30)))
            have hs2 := b2.size
            clear b2' z8
            refine hK _ _ ?_
            clear hK K
            refine wpAny_ready (rs := [0, 5]) (by kernel_rfl) (by simp) ?_
            refine AllReady.cons rfl (fun K hK => ?_) ?_
            · go_simp
              refine hK _ _ ?_
              clear hK K
              refine wpAny_ready (rs := [5]) (by kernel_rfl) (by simp) ?_
              refine AllReady.cons rfl (fun K hK => ?_) ?_
              · go_simp
                refine hK _ _ ?_
                clear hK K
                refine wpAny_ready (rs := [6]) (by kernel_rfl) (by simp) ?_
                refine AllReady.cons rfl (fun K hK => ?_) ?_
                · refine step_append_lies _ rfl _ _ 27 rfl (W0.heap.size + 3) 30 i0 (.agg #[.int .i64 0, .int .i64 0]) 2 16 Try.underlying27 hi hz0 hz1 hz2 rfl (by decide) v zs.length (cellsF zs) rfl RA.out ⟨w2.heap.size, 0, none⟩ 1 1 [.int .i64 tn, .int .i64 td] rfl rfl (cell_two_new _ _ _ _) (by simp [Value.oneCell']) (by decide) hb63 (by omega) (by simp; omega) _ rfl ?_
                  intro g5 c5 w5 hown5 hg5 _ _
                  obtain ⟨hv1, hv2, hr2, hk2, hb2⟩ := Boxed.appended Z8.out (by decide) (own_base R2.out (B' := w.heap.size + 1 + 1) (by omega)) (by omega) (Nat.le_refl _) (own_base hown5 (B' := w.heap.size + 1 + 1) (by omega)) hg5
                  have hc1 := hv1.cell
                  have hf1 := hv1.frozen
                  have HV2 := Lib.hid hv2
                  have HK2 := Lib.hid hk2
                  have HB2 := Lib.hid hb2
                  have HG := Lib.hid hg5
                  have HO5 := Lib.hid hown5
                  clear hv1 hv2 hr2 hk2 hb2 hg5 hown5
                  refine hK _ _ ?_
                  clear hK K
                  refine wpAny_ready (rs := [7]) (by kernel_rfl) (by simp) ?_
                  refine AllReady.cons rfl (fun K hK => ?_) ?_
                  · go_simp
                    refine hK _ _ ?_
                    clear hK K
                    refine wpAny_done (by kernel_rfl) ?_ _
                    refine ⟨(keeps_below' b2).trans HK2.out, fun k hk => ?_, _, zs ++ [(tn, td)], ⟨HV2.out, ?_, ?_, ?_, HI.out.below.trans ((b2.mono (by omega)).trans HB2.out)⟩⟩
                    · have hkW : k < wr.heap.size := by omega
                      rw [Below.heap_setCell _ _ _ k (by simp; omega), HG.out.block k (by simp; omega) (fun e => by have := (World.ownsRow.lt R2.out k e.symm).1; omega), Below.heap_alloc _ _ k (by omega)]
                      exact b2.block k hkW
                    · have := World.ownsRow.kept HO5.out (grow_set w5 (w.heap.size + 1 + 1) 0 (.slice (some ⟨g5, 0, none⟩) (zs.length + 1) c5)) (.inr (fun e => by have := (World.ownsRow.lt HO5.out _ e).1; omega))
                      rw [cellsF_app, List.length_append]
                      exact this
                    · rw [HI.out.at_, restOf_next HIF.out, ← HTT.out]; simp
                    · have := HI.out.count.next HIF.out
                      simpa using this
                  exact AllReady.nil
                exact AllReady.nil
              exact AllReady.nil
            refine AllReady.cons rfl (fun K hK => ?_) ?_
            · go_simp
              refine hK _ _ ?_
              clear hK K
              refine wpAny_ready (rs := [0]) (by kernel_rfl) (by simp) ?_
              refine AllReady.cons rfl (fun K hK => ?_) ?_
              · go_simp
                refine hK _ _ ?_
                clear hK K
                refine wpAny_ready (rs := [6]) (by kernel_rfl) (by simp) ?_
                refine AllReady.cons rfl (fun K hK => ?_) ?_
                · refine step_append_lies _ rfl _ _ 27 rfl (W0.heap.size + 3) 30 i0 (.agg #[.int .i64 0, .int .i64 0]) 2 16 Try.underlying27 hi hz0 hz1 hz2 rfl (by decide) v zs.length (cellsF zs) rfl RA.out ⟨w2.heap.size, 0, none⟩ 1 1 [.int .i64 tn, .int .i64 td] rfl rfl (cell_two_new _ _ _ _) (by simp [Value.oneCell']) (by decide) hb63 (by omega) (by simp; omega) _ rfl ?_
                  intro g5 c5 w5 hown5 hg5 _ _
                  obtain ⟨hv1, hv2, hr2, hk2, hb2⟩ := Boxed.appended Z8.out (by decide) (own_base R2.out (B' := w.heap.size + 1 + 1) (by omega)) (by omega) (Nat.le_refl _) (own_base hown5 (B' := w.heap.size + 1 + 1) (by omega)) hg5
                  have hc1 := hv1.cell
                  have hf1 := hv1.frozen
                  have HV2 := Lib.hid hv2
                  have HK2 := Lib.hid hk2
                  have HB2 := Lib.hid hb2
                  have HG := Lib.hid hg5
                  have HO5 := Lib.hid hown5
                  clear hv1 hv2 hr2 hk2 hb2 hg5 hown5
                  refine hK _ _ ?_
                  clear hK K
                  refine wpAny_ready (rs := [7]) (by kernel_rfl) (by simp) ?_
                  refine AllReady.cons rfl (fun K hK => ?_) ?_
                  · go_simp
                    refine hK _ _ ?_
                    clear hK K
                    refine wpAny_done (by kernel_rfl) ?_ _
                    refine ⟨(keeps_below' b2).trans HK2.out, fun k hk => ?_, _, zs ++ [(tn, td)], ⟨HV2.out, ?_, ?_, ?_, HI.out.below.trans ((b2.mono (by omega)).trans HB2.out)⟩⟩
                    · have hkW : k < wr.heap.size := by omega
                      rw [Below.heap_setCell _ _ _ k (by simp; omega), HG.out.block k (by simp; omega) (fun e => by have := (World.ownsRow.lt R2.out k e.symm).1; omega), Below.heap_alloc _ _ k (by omega)]
                      exact b2.block k hkW
                    · have := World.ownsRow.kept HO5.out (grow_set w5 (w.heap.size + 1 + 1) 0 (.slice (some ⟨g5, 0, none⟩) (zs.length + 1) c5)) (.inr (fun e => by have := (World.ownsRow.lt HO5.out _ e).1; omega))
                      rw [cellsF_app, List.length_append]
                      exact this
                    · rw [HI.out.at_, restOf_next HIF.out, ← HTT.out]; simp
                    · have := HI.out.count.next HIF.out
                      simpa using this
                  exact AllReady.nil
                exact AllReady.nil
              exact AllReady.nil
            exact AllReady.nil
          exact AllReady.nil
        exact AllReady.nil
  case done =>
    rintro D W hD ⟨v, zs, hI⟩ hK
    have hc := hI.box.cell
    gi_wp2
    refine ⟨by simp, .inl ⟨_, _, rfl, run_takeDeferred hK, ?_⟩⟩
    have hI2 := hI.kept (by omega) (grownBy_putObj' W D (.deferred none)) (by omega) (.inr ⟨_, hK, rfl⟩)
    have hva : ∃ A c', v = .slice A zs.length c' := by
      rcases hI2.row.2 with ⟨rfl, h0⟩ | ⟨g, cap, cur, rfl, _⟩
      · exact ⟨none, 0, by rw [h0]⟩
      · exact ⟨_, _, rfl⟩
    obtain ⟨A, c', rfl⟩ := hva
    have hat := hI2.at_
    rw [HT.out] at hat
    simp only [restOf, List.append_nil] at hat
    exact ⟨_, results_tmp rfl _ _ _, A, c', zs, rfl, own_base hI2.row (by omega), hat.symm, B0.trans (hI2.below.mono (by omega))⟩
  case stop =>
    rintro D W _ h _
    exact h.elim
end Go.Proofs.Ytoipjhdnmiomeaa

/-
  Chapter 2, the program: the contract of sumOf at fractions.
-/
namespace Go.Proofs.Ytoipjhdnmiomeaa
open Go.RowKit

theorem sumQ_snoc (qs : List Rat) (q : Rat) : sumQ (qs ++ [q]) = sumQ qs + q := by rw [sumQ_app]; simp only [sumQ]; grind
theorem sumQ_step {qs : List Rat} {k : Nat} {q : Rat} (h : qs[k]? = some q) : sumQ (qs.take (k + 1)) = sumQ (qs.take k) + q := by
  rw [List.take_add_one, h]
  exact sumQ_snoc _ _
theorem sumQ_sc {D B : Int} (hB : 0 ≤ B) : ∀ (qs : List Rat), (∀ q ∈ qs, Sc D B q) → Sc D (B * (qs.length : Int)) (sumQ qs)
  | [], _ => by simpa [sumQ] using Sc.zero
  | q :: qs, h => by
    have h1 := sumQ_sc hB qs fun q hq => h q (List.mem_cons_of_mem _ hq)
    have h2 := h q (List.mem_cons_self ..)
    rw [sumQ]
    refine (h2.add h1).mono ?_
    rw [List.length_cons, Int.natCast_add, Int.natCast_one, Int.mul_add, Int.mul_one]
    omega

set_option maxHeartbeats 4000000 in
theorem sumFracs_any (A : Option Addr) (c : Nat) (qs : List Rat) (D N M : Int) (w : World) (h : RdF w A c (frL qs)) (hl : qs.length ≤ 216) (hD1 : 1 ≤ D) (hD : D ≤ 46656) (hs : ∀ q ∈ qs, Sc D 2176782336 q) (hq : FrIs (sumQ qs) N M) :
    Calls Try.prog 76 #[.func (.func 77) #[] #[], frV 0 1, .slice A qs.length c] w fun e w' => e = .returned (frV N M) ∧ Below w.heap.size w w' := by
  have HQ := Lib.hid hq
  have HS := Lib.hid hs
  clear hq hs
  unfold frV
  go_enter Try.func76, Try.ntmps76
  go_wp2_with fail
  have hB0 : Below w.heap.size w (((w.alloc (.cells #[.int .i64 0, .int .i64 1] 30)).alloc (.cells #[.int .i64 0, .int .i64 0] 30)).alloc (.cells #[.int .i64 0, .int .i64 1] 30)) :=
    (((Below.refl _ w).alloc (Nat.le_refl _) _).alloc (by simp) _).alloc (by simp; omega) _
  have hR0 : PairAt (((w.alloc (.cells #[.int .i64 0, .int .i64 1] 30)).alloc (.cells #[.int .i64 0, .int .i64 0] 30)).alloc (.cells #[.int .i64 0, .int .i64 1] 30)) (w.heap.size + 1) 0 0 := by
    have := (PairAt.new (w := w.alloc (.cells #[.int .i64 0, .int .i64 1] 30)) (x := 0) (y := 0)).old (.cells #[.int .i64 0, .int .i64 1] 30)
    rw [World.size_alloc] at this
    exact this
  have hS0 : PairAt (((w.alloc (.cells #[.int .i64 0, .int .i64 1] 30)).alloc (.cells #[.int .i64 0, .int .i64 0] 30)).alloc (.cells #[.int .i64 0, .int .i64 1] 30)) (w.heap.size + 1 + 1) 0 1 := by
    have := PairAt.new (w := (w.alloc (.cells #[.int .i64 0, .int .i64 1] 30)).alloc (.cells #[.int .i64 0, .int .i64 0] 30)) (x := 0) (y := 1)
    rw [World.size_alloc, World.size_alloc] at this
    exact this
  go_loopw [13] (fun i wr => ∃ (j : Nat) (x y : Int), j ≤ qs.length ∧ i = .int .i64 j ∧ Below w.heap.size w wr ∧ PairAt wr (w.heap.size + 1) 0 0 ∧ PairAt wr (w.heap.size + 1 + 1) x y ∧ Hid (FrIs (sumQ (qs.take j)) x y)) (fun i _ => qs.length - (intOf i).toNat)
  case atStart => exact ⟨0, 0, 1, Nat.zero_le _, rfl, hB0, hR0, hS0, Lib.hid (FrIs.int 0)⟩
  case round =>
    obtain ⟨j, x, y, hj, rfl, hb, hPR, hPS, HX⟩ := hrel
    by_cases hjn : j < qs.length
    · obtain ⟨q, hqj⟩ : ∃ q, qs[j]? = some q := ⟨_, List.getElem?_eq_getElem hjn⟩
      obtain ⟨bq, qn, qd, rfl, hbq, hxy, k1, k2⟩ := (h.below hb).at_ (k := j) (by rw [frL_len]; exact hjn)
      obtain ⟨q2, hq2, hqq⟩ := frL_at hxy.out
      obtain rfl : q = q2 := by rw [hqj] at hq2; injection hq2
      have hstep := sumQ_step hqj
      obtain ⟨n', hn'⟩ : ∃ n, n = (sumQ (qs.take (j + 1))).num := ⟨_, rfl⟩
      obtain ⟨d', hd'⟩ : ∃ d, d = ((sumQ (qs.take (j + 1))).den : Int) := ⟨_, rfl⟩
      have hss : FrIs (sumQ (qs.take (j + 1))) n' d' := ⟨hn', hd'⟩
      have HSS := Lib.hid hss
      have HPL := Lib.hid (fr_add HX.out hqq (by rw [← hstep]; exact hss))
      have hsc := sumQ_sc (D := D) (B := 2176782336) (by decide) (qs.take j) (fun q hq => HS.out q (List.mem_of_mem_take hq))
      obtain ⟨s0, s1, s2, s3⟩ := hsc.bd hD1 HX.out
      have hlt : ((qs.take j).length : Int) ≤ 216 := by rw [List.length_take]; omega
      have s4 : -470184984576 ≤ x ∧ x ≤ 470184984576 ∧ y ≤ 46656 := by omega
      obtain ⟨r1, r2, r3, r4⟩ := (HS.out q (List.mem_of_getElem? hqj)).bd hD1 hqq
      obtain ⟨p1, p2⟩ := mul_bd s4.1 s4.2.1 r3 (show qd ≤ 46656 by omega) (by omega)
      obtain ⟨p3, p4⟩ := mul_bd r1 r2 s2 s4.2.2 (by omega)
      obtain ⟨p5, p6⟩ := mul_bd (show -46656 ≤ y by omega) s4.2.2 r3 (show qd ≤ 46656 by omega) (by omega)
      have p7 := Int.mul_le_mul s2 r3 (by omega) (by omega)
      obtain ⟨c0, c1, f0, f1⟩ := hPS.facts
      have hPS' := hPS.old (.cells #[.int .i64 qn, .int .i64 qd] 30)
      have hPR' := hPR.old (.cells #[.int .i64 qn, .int .i64 qd] 30)
      have hB' := below_up hb (below_al wr (.cells #[.int .i64 qn, .int .i64 qd] 30))
      have hsl := hPS.lt
      clear hqj hxy hq2 hqq hstep hn' hd' hss hsc hlt s0 s1 s4
      go_wp2_with fail
      refine (plus_any x y qn qd n' d' _ HPL.out (by omega) (by omega) (by omega) (by omega) (by omega) (by omega)).mono ?_
      rintro e w6 ⟨rfl, hb6⟩
      have hPS6 := hPS'.below hb6
      have hPR6 := (hPR'.below hb6).other (show w.heap.size + 1 ≠ w.heap.size + 1 + 1 by omega) (.int .i64 n') (.int .i64 d')
      have hPS7 := hPS6.set_ n' d'
      have hB7 := below_set2 (B := w.heap.size + 1 + 1) (below_up hB' hb6) (by omega) (.int .i64 n') (.int .i64 d')
      obtain ⟨d0, d1, g0, g1⟩ := hPS6.facts
      unfold frV
      go_wp2
      go_roundw
      case rel => exact ⟨j + 1, n', d', by omega, by go_num, hB7, hPR6, hPS7, HSS⟩
      case measure => simp [intOf] <;> omega
    · obtain rfl : j = qs.length := by omega
      have HE := Lib.hid (show x = N ∧ y = M by have := HX.out; rw [List.take_length] at this; exact this.same HQ.out)
      obtain ⟨c0, c1, f0, f1⟩ := hPS.facts
      obtain ⟨c2, c3, f2, f3⟩ := hPR.facts
      go_wp2
      obtain ⟨e0, e1, _, _⟩ := (hPR.set_ x y).facts
      have hB2 := below_set2 (B := w.heap.size + 1) hb (by omega) (.int .i64 x) (.int .i64 y)
      obtain ⟨rfl, rfl⟩ := HE.out
      refine bodyPost_ret (v := frV x y) (by simp [results, Try.results76, go_sem, frV, e0, e1]) rfl ⟨rfl, hB2⟩
end Go.Proofs.Ytoipjhdnmiomeaa

/-
  Chapter 2: at whatever arguments the program's VirtualRevenue and BestRevenue answer as the model's.
-/
namespace Go.Proofs.Ytoipjhdnmiomeaa
open Go.RowKit

/-- A fraction and true. -/
def qV (q : Rat) : Value := .tuple #[frV q.num (q.den : Int), .bool true]
/-- The zero value and false. -/
def noV : Value := .tuple #[frV 0 0, .bool false]
/-- What VirtualRevenue answers, and BestRevenue. -/
def virtR (xs : List Int) (n r : Int) : Value := if crowdB xs n r = true then qV (sumV xs (virtG xs r) n.toNat) else noV
def bestR (xs : List Int) (n : Int) : Value := if crowdB xs n 0 = true then qV (sumV xs (ironG xs) n.toNat) else noV

set_option maxHeartbeats 1000000 in
theorem SVirtualRevenue_any (A : Option Addr) (c : Nat) (xs : List Int) (n r : Int) (w : World) (h : Rd w A c xs) (hl : xs.length ≤ 1048576) :
    Calls Try.prog 38 #[.slice A xs.length c, .int .i64 n, .int .i64 r] w (AnsIs w (virtR xs n r)) := by
  cases hc : crowdB xs n r with
  | false =>
    have HC := Lib.hid hc
    have HE := Lib.hid (show virtR xs n r = noV by unfold virtR; rw [hc]; rfl)
    have h' := h.below (below_al w (.cells #[.int .i64 0, .int .i64 0] 30))
    have hk := PairAt.new (w := w) (x := 0) (y := 0)
    obtain ⟨c0, c1, f0, f1⟩ := hk.facts
    have hB := below_al w (.cells #[.int .i64 0, .int .i64 0] 30)
    clear hc
    go_enter Try.func38, Try.ntmps38
    go_wp2_with fail
    refine (validCrowd_any _ _ _ _ _ _ h' hl).mono ?_
    rw [HC.out]
    rintro e w1 ⟨rfl, rfl⟩
    go_wp2
    refine bodyPost_ret (v := noV) (by simp [results, Try.results38, go_sem, noV, frV, c0, c1]) rfl ⟨by rw [HE.out], hB⟩
  | true =>
    obtain ⟨hv, hn, hr⟩ := crowd_yes hc
    obtain ⟨n0, n1⟩ := inR_true.1 hn
    obtain ⟨r0, r1⟩ := inR_true.1 hr
    obtain ⟨m, rfl⟩ := Int.eq_ofNat_of_zero_le (show 0 ≤ n by omega)
    obtain ⟨b, off, rfl⟩ := h.open1 (vW_le hv).1
    have e : virtR xs m r = qV (sumV xs (virtG xs r) m) := by unfold virtR; rw [hc]; rfl
    rw [e]
    exact SVirtualRevenue_yes b off c xs m r _ _ w h hv (by omega) (by omega) r0 r1 (FrIs.self _)

theorem rest_frL (xs : List Int) (g : List Int → Rat) (top : Nat) (o : Option (List Int)) : restOf (tq xs g) top o = frL (restOf (termQ xs g) top o) := by
  cases o with
  | none => rfl
  | some ys => simp only [restOf, frL, List.map_map]; rfl
theorem rest_sc {xs : List Int} {g : List Int → Rat} {n : Nat} {D : Int} (h : TermsOk xs g n D) : ∀ q ∈ restOf (termQ xs g) (xs.length - 1) (some (List.replicate n 0)), Sc D 2176782336 q := by
  intro q hq
  obtain ⟨vs, hvs, rfl⟩ := List.mem_map.1 hq
  exact h.2.2 vs (allF_fit (Fit.zero _ n) hvs)

theorem virtL_flen (xs : List Int) : (frL (virtL xs)).length = xs.length := by rw [frL_len, virtL_len]
theorem ironed_flen (xs : List Int) : (frL (ironed xs)).length = xs.length := by rw [frL_len, ironed_len]

set_option maxRecDepth 100000 in
set_option maxHeartbeats 4000000 in
theorem VirtualRevenue_any (A : Option Addr) (c : Nat) (xs : List Int) (n r : Int) (w : World) (h : Rd w A c xs) (hcc : xs.length ≤ c) (hl : xs.length ≤ 1048576) :
    Calls Try.prog 35 #[.slice A xs.length c, .int .i64 n, .int .i64 r] w (AnsIs w (virtR xs n r)) := by
  have hB : Below w.heap.size w ((w.alloc (.cells #[.int .i64 r] 3)).alloc (.cells #[.int .i64 0, .int .i64 0] 30)) := ((Below.refl _ w).alloc (Nat.le_refl _) _).alloc (by simp) _
  have h' := h.below hB
  have HV := Lib.hid (ValidWeights_any A c xs _ h' (by omega))
  have HN := fun w => Lib.hid (isFew_any n w)
  have HR := fun w => Lib.hid (isEdge_any r w)
  have HVI := Lib.hid (VirtualOf_any A c xs _ h' hcc hl)
  have hk : PairAt ((w.alloc (.cells #[.int .i64 r] 3)).alloc (.cells #[.int .i64 0, .int .i64 0] 30)) (w.heap.size + 1) 0 0 := by
    have := PairAt.new (w := w.alloc (.cells #[.int .i64 r] 3)) (x := 0) (y := 0)
    rw [World.size_alloc] at this
    exact this
  have kr := ((Boxed.new w 3 (.int .i64 r)).alloc (.cells #[.int .i64 0, .int .i64 0] 30)).cell
  obtain ⟨c0, c1, f0, f1⟩ := hk.facts
  cases hv : vW xs with
  | false =>
    have HE := Lib.hid (show virtR xs n r = noV by unfold virtR crowdB; rw [hv]; rfl)
    rw [hv] at HV
    clear hv
    go_enter Try.func35, Try.ntmps35
    go_wp2_with fail
    refine HV.out.mono ?_
    rintro e w1 ⟨rfl, rfl⟩
    go_wp2
    refine bodyPost_ret (v := noV) (by simp [results, Try.results35, go_sem, noV, frV, c0, c1]) rfl ⟨by rw [HE.out], hB⟩
  | true =>
    rw [hv] at HV
    cases hn : inR n 1 3 with
    | false =>
      have HE := Lib.hid (show virtR xs n r = noV by unfold virtR crowdB; rw [hv, hn]; rfl)
      rw [hn] at HN
      clear hv hn
      go_enter Try.func35, Try.ntmps35
      go_wp2_with fail
      refine HV.out.mono ?_
      rintro e w1 ⟨rfl, rfl⟩
      go_wp2_with fail
      refine (HN _).out.mono ?_
      rintro e w1 ⟨rfl, rfl⟩
      go_wp2
      refine bodyPost_ret (v := noV) (by simp [results, Try.results35, go_sem, noV, frV, c0, c1]) rfl ⟨by rw [HE.out], hB⟩
    | true =>
      cases hr : inR r 0 6 with
      | false =>
        have HE := Lib.hid (show virtR xs n r = noV by unfold virtR crowdB; rw [hv, hn, hr]; rfl)
        rw [hn] at HN
        rw [hr] at HR
        clear hv hn hr
        go_enter Try.func35, Try.ntmps35
        go_wp2_with fail
        refine HV.out.mono ?_
        rintro e w1 ⟨rfl, rfl⟩
        go_wp2_with fail
        refine (HN _).out.mono ?_
        rintro e w1 ⟨rfl, rfl⟩
        go_wp2_with fail
        refine (HR _).out.mono ?_
        rintro e w1 ⟨rfl, rfl⟩
        go_wp2
        refine bodyPost_ret (v := noV) (by simp [results, Try.results35, go_sem, noV, frV, c0, c1]) rfl ⟨by rw [HE.out], hB⟩
      | true =>
        obtain ⟨n0, n1⟩ := inR_true.1 hn
        obtain ⟨r0, r1⟩ := inR_true.1 hr
        obtain ⟨m, rfl⟩ := Int.eq_ofNat_of_zero_le (show 0 ≤ n by omega)
        obtain ⟨b, off, rfl⟩ := h.open1 (vW_le hv).1
        have hm1 : 1 ≤ m := by omega
        have hm3 : m ≤ 3 := by omega
        have HE := Lib.hid (show virtR xs m r = qV (sumV xs (virtG xs r) m) by unfold virtR crowdB; rw [hv, hn, hr]; rfl)
        have HOK := Lib.hid (virt_ok hv hm1 hm3 r0)
        have HLN := Lib.hid (rest_len (termQ xs (virtG xs r)) (xs.length - 1) m hm1 hm3 (by have := vW_le hv; omega))
        rw [show virtO xs = some (virtL xs) by unfold virtO; rw [hv]; rfl] at HVI
        have HVV := Lib.hid hv
        rw [hn] at HN
        rw [hr] at HR
        clear hv hn hr
        go_enter Try.func35, Try.ntmps35
        go_wp2_with fail
        refine HV.out.mono ?_
        rintro e w1 ⟨rfl, rfl⟩
        go_wp2_with fail
        refine (HN _).out.mono ?_
        rintro e w1 ⟨rfl, rfl⟩
        go_wp2_with fail
        refine (HR _).out.mono ?_
        rintro e w1 ⟨rfl, rfl⟩
        go_wp2_with fail
        refine HVI.out.mono ?_
        rintro e w2 ho0
        obtain ⟨gv, cv, rfl, hO2, hb2⟩ := outF_some ho0
        rw [show (frL (virtL xs)).length = xs.length from virtL_flen xs]
        have hB2 : Below w.heap.size w w2 := hB.trans (hb2.mono hB.size)
        have kr2 := (hb2.cell (p := ⟨w.heap.size, 0, none⟩) (by simp; omega)).trans kr
        have hk2 := hk.below hb2
        have hs2 : w.heap.size + 2 ≤ w2.heap.size := by have := hb2.size; simp at this; omega
        obtain ⟨w3, hw3⟩ : ∃ w3, w3 = w2.alloc (.cells #[.slice (some ⟨gv, 0, none⟩) xs.length cv] 27) := ⟨_, rfl⟩
        have hb3 : Below w2.heap.size w2 w3 := by rw [hw3]; exact below_al w2 _
        have kx3 : w3.cell? ⟨w2.heap.size, 0, none⟩ = some (.slice (some ⟨gv, 0, none⟩) xs.length cv) := by rw [hw3]; exact (Boxed.new w2 27 _).cell
        have kr3 := (hb3.cell (p := ⟨w.heap.size, 0, none⟩) (by simp; omega)).trans kr2
        have hk3 := hk2.below hb3
        have hB3 := below_up hB2 hb3
        have hrf3 : RdF w3 (some ⟨gv, 0, none⟩) cv (frL (virtL xs)) := (hO2.below hb3).rd
        have HTM := Lib.hid (termsV_any b off c xs m w.heap.size w2.heap.size (virtG xs r) w3 (h.below hB3) HVV.out hm1 hm3 (fun ys gb cg W2 hbw hrd hf => by
          obtain ⟨q0, q1⟩ := ways_bd (vW_valid HVV.out) ys (hf.inV (vW_le HVV.out).1) (by have := hf.1; omega)
          exact virtTerm_any (some ⟨gb, 0, none⟩) cg xs ys m (waysF xs ys) r _ _ w.heap.size w2.heap.size gv cv W2 hrd HVV.out hf hm1 hm3 r0 (by omega) q1
            ((hbw.cell (p := ⟨w.heap.size, 0, none⟩) (World.block_lt_of_cell? w3 _ kr3)).trans kr3) ((hbw.cell (p := ⟨w2.heap.size, 0, none⟩) (World.block_lt_of_cell? w3 _ kx3)).trans kx3) (hrf3.below hbw) (FrIs.self _)))
        rw [hw3] at HTM
        go_wp2_with fail
        refine HTM.out.mono ?_
        rintro e w4 ⟨A1, c1', zs, rfl, o4, hz, b4⟩
        rw [← hw3] at b4 o4
        rw [rest_frL] at hz
        obtain ⟨qs, hqs⟩ : ∃ qs, qs = restOf (termQ xs (virtG xs r)) (xs.length - 1) (some (List.replicate m 0)) := ⟨_, rfl⟩
        rw [← hqs] at hz HLN
        subst hz
        rw [frL_len]
        have hk4 := hk3.below b4
        have hB4 := below_up hB3 b4
        have HSC := Lib.hid (fun q hq => rest_sc HOK.out q (by rw [← hqs]; exact hq))
        have HSQ := Lib.hid (show sumQ qs = sumV xs (virtG xs r) m by rw [hqs]; rfl)
        clear hk2 hk3 hb2 hb3 ho0 kr kr2 hB2 hqs
        go_wp2_with fail
        refine (wholeOf_any 0 _).mono ?_
        rintro e w5 ⟨rfl, hb5⟩
        have o5 := (o4.below hb5).rd
        have hk5 := hk4.below hb5
        have hB5 := below_up hB4 hb5
        go_wp2_with fail
        refine (sumFracs_any A1 c1' qs 60 _ _ _ o5 HLN.out (by decide) (by decide) HSC.out (FrIs.self _)).mono ?_
        rintro e w6 ⟨rfl, hb6⟩
        have hk6 := hk5.below hb6
        have hB6 := below_up hB5 hb6
        obtain ⟨d0, d1, g0, g1⟩ := hk6.facts
        rw [HSQ.out]
        unfold frV
        go_wp2
        obtain ⟨e0, e1, _, _⟩ := (hk6.set_ (sumV xs (virtG xs r) m).num ((sumV xs (virtG xs r) m).den : Int)).facts
        have hB7 := below_set2 (B := w.heap.size + 1) hB6 (by omega) (.int .i64 (sumV xs (virtG xs r) m).num) (.int .i64 ((sumV xs (virtG xs r) m).den : Int))
        refine bodyPost_ret (v := qV (sumV xs (virtG xs r) m)) (by simp [results, Try.results35, go_sem, qV, frV, e0, e1]) rfl ⟨by rw [HE.out], hB7⟩

end Go.Proofs.Ytoipjhdnmiomeaa

/-
  Chapter 2: at whatever weights and bidders the program's BestRevenue answers as the model's; and both as values for the exact laws.
-/
namespace Go.Proofs.Ytoipjhdnmiomeaa
open Go.RowKit

theorem crowd0 {xs : List Int} {n : Int} (hv : vW xs = true) (hn : inR n 1 3 = true) : crowdB xs n 0 = true := by
  unfold crowdB
  rw [hv, hn]; rfl

set_option maxHeartbeats 1000000 in
theorem SBestRevenue_any (A : Option Addr) (c : Nat) (xs : List Int) (n : Int) (w : World) (h : Rd w A c xs) (hl : xs.length ≤ 1048576) :
    Calls Try.prog 40 #[.slice A xs.length c, .int .i64 n] w (AnsIs w (bestR xs n)) := by
  cases hc : crowdB xs n 0 with
  | false =>
    have HC := Lib.hid hc
    have HE := Lib.hid (show bestR xs n = noV by unfold bestR; rw [hc]; rfl)
    have h' := h.below (below_al w (.cells #[.int .i64 0, .int .i64 0] 30))
    have hk := PairAt.new (w := w) (x := 0) (y := 0)
    obtain ⟨c0, c1, f0, f1⟩ := hk.facts
    have hB := below_al w (.cells #[.int .i64 0, .int .i64 0] 30)
    clear hc
    go_enter Try.func40, Try.ntmps40
    go_wp2_with fail
    refine (validCrowd_any _ _ _ _ _ _ h' hl).mono ?_
    rw [HC.out]
    rintro e w1 ⟨rfl, rfl⟩
    go_wp2
    refine bodyPost_ret (v := noV) (by simp [results, Try.results40, go_sem, noV, frV, c0, c1]) rfl ⟨by rw [HE.out], hB⟩
  | true =>
    obtain ⟨hv, hn, hr⟩ := crowd_yes hc
    obtain ⟨n0, n1⟩ := inR_true.1 hn
    obtain ⟨m, rfl⟩ := Int.eq_ofNat_of_zero_le (show 0 ≤ n by omega)
    obtain ⟨b, off, rfl⟩ := h.open1 (vW_le hv).1
    have e : bestR xs m = qV (sumV xs (ironG xs) m) := by unfold bestR; rw [hc]; rfl
    rw [e]
    exact SBestRevenue_yes b off c xs m _ _ w h hv (by omega) (by omega) (FrIs.self _)

set_option maxRecDepth 100000 in
set_option maxHeartbeats 4000000 in
theorem BestRevenue_any (A : Option Addr) (c : Nat) (xs : List Int) (n : Int) (w : World) (h : Rd w A c xs) (hcc : xs.length ≤ c) (hl : xs.length ≤ 1048576) :
    Calls Try.prog 36 #[.slice A xs.length c, .int .i64 n] w (AnsIs w (bestR xs n)) := by
  have hB : Below w.heap.size w (w.alloc (.cells #[.int .i64 0, .int .i64 0] 30)) := below_al w _
  have h' := h.below hB
  have HV := Lib.hid (ValidWeights_any A c xs _ h' (by omega))
  have HN := fun w => Lib.hid (isFew_any n w)
  have HVI := Lib.hid (IronedOf_any A c xs _ h' hcc hl)
  have hk := PairAt.new (w := w) (x := 0) (y := 0)
  obtain ⟨c0, c1, f0, f1⟩ := hk.facts
  cases hv : vW xs with
  | false =>
    have HE := Lib.hid (show bestR xs n = noV by unfold bestR crowdB; rw [hv]; rfl)
    rw [hv] at HV
    clear hv
    go_enter Try.func36, Try.ntmps36
    go_wp2_with fail
    refine HV.out.mono ?_
    rintro e w1 ⟨rfl, rfl⟩
    go_wp2
    refine bodyPost_ret (v := noV) (by simp [results, Try.results36, go_sem, noV, frV, c0, c1]) rfl ⟨by rw [HE.out], hB⟩
  | true =>
    rw [hv] at HV
    cases hn : inR n 1 3 with
    | false =>
      have HE := Lib.hid (show bestR xs n = noV by unfold bestR crowdB; rw [hv, hn]; rfl)
      rw [hn] at HN
      clear hv hn
      go_enter Try.func36, Try.ntmps36
      go_wp2_with fail
      refine HV.out.mono ?_
      rintro e w1 ⟨rfl, rfl⟩
      go_wp2_with fail
      refine (HN _).out.mono ?_
      rintro e w1 ⟨rfl, rfl⟩
      go_wp2
      refine bodyPost_ret (v := noV) (by simp [results, Try.results36, go_sem, noV, frV, c0, c1]) rfl ⟨by rw [HE.out], hB⟩
    | true =>
      obtain ⟨n0, n1⟩ := inR_true.1 hn
      obtain ⟨m, rfl⟩ := Int.eq_ofNat_of_zero_le (show 0 ≤ n by omega)
      obtain ⟨b, off, rfl⟩ := h.open1 (vW_le hv).1
      have hm1 : 1 ≤ m := by omega
      have hm3 : m ≤ 3 := by omega
      have HE := Lib.hid (show bestR xs m = qV (sumV xs (ironG xs) m) by unfold bestR; rw [crowd0 hv hn]; rfl)
      obtain ⟨D, hok⟩ := iron_ok (n := m) hv hm3
      have HOK := Lib.hid hok
      have hD1 := hok.1
      have hD2 := hok.2.1
      have HLN := Lib.hid (rest_len (termQ xs (ironG xs)) (xs.length - 1) m hm1 hm3 (by have := vW_le hv; omega))
      rw [show ironO xs = some (ironed xs) by unfold ironO; rw [hv]; rfl] at HVI
      have HVV := Lib.hid hv
      rw [hn] at HN
      clear hv hn hok
      go_enter Try.func36, Try.ntmps36
      go_wp2_with fail
      refine HV.out.mono ?_
      rintro e w1 ⟨rfl, rfl⟩
      go_wp2_with fail
      refine (HN _).out.mono ?_
      rintro e w1 ⟨rfl, rfl⟩
      go_wp2_with fail
      refine HVI.out.mono ?_
      rintro e w2 ho0
      obtain ⟨gv, cv, rfl, hO2, hb2⟩ := outF_some ho0
      rw [show (frL (ironed xs)).length = xs.length from ironed_flen xs]
      have hB2 : Below w.heap.size w w2 := hB.trans (hb2.mono hB.size)
      have hk2 := hk.below hb2
      obtain ⟨w3, hw3⟩ : ∃ w3, w3 = w2.alloc (.cells #[.slice (some ⟨gv, 0, none⟩) xs.length cv] 27) := ⟨_, rfl⟩
      have hb3 : Below w2.heap.size w2 w3 := by rw [hw3]; exact below_al w2 _
      have kx3 : w3.cell? ⟨w2.heap.size, 0, none⟩ = some (.slice (some ⟨gv, 0, none⟩) xs.length cv) := by rw [hw3]; exact (Boxed.new w2 27 _).cell
      have hk3 := hk2.below hb3
      have hB3 := below_up hB2 hb3
      have hrf3 : RdF w3 (some ⟨gv, 0, none⟩) cv (frL (ironed xs)) := (hO2.below hb3).rd
      have HTM := Lib.hid (termsB_any b off c xs m w2.heap.size (ironG xs) w3 (h.below hB3) HVV.out hm1 hm3 (fun ys gb cg W2 hbw hrd hf => by
        obtain ⟨q0, q1⟩ := ways_bd (vW_valid HVV.out) ys (hf.inV (vW_le HVV.out).1) (by have := hf.1; omega)
        exact bestTerm_any (some ⟨gb, 0, none⟩) cg xs ys m (waysF xs ys) _ _ w2.heap.size gv cv W2 hrd HVV.out hf hm1 hm3 (by omega) q1
          ((hbw.cell (p := ⟨w2.heap.size, 0, none⟩) (World.block_lt_of_cell? w3 _ kx3)).trans kx3) (hrf3.below hbw) (FrIs.self _)))
      rw [hw3] at HTM
      go_wp2_with fail
      refine HTM.out.mono ?_
      rintro e w4 ⟨A1, c1', zs, rfl, o4, hz, b4⟩
      rw [← hw3] at b4 o4
      rw [rest_frL] at hz
      obtain ⟨qs, hqs⟩ : ∃ qs, qs = restOf (termQ xs (ironG xs)) (xs.length - 1) (some (List.replicate m 0)) := ⟨_, rfl⟩
      rw [← hqs] at hz HLN
      subst hz
      rw [frL_len]
      have hk4 := hk3.below b4
      have hB4 := below_up hB3 b4
      have HSC := Lib.hid (fun q hq => rest_sc HOK.out q (by rw [← hqs]; exact hq))
      have HSQ := Lib.hid (show sumQ qs = sumV xs (ironG xs) m by rw [hqs]; rfl)
      clear hk2 hk3 hb2 hb3 ho0 hB2 hqs
      go_wp2_with fail
      refine (wholeOf_any 0 _).mono ?_
      rintro e w5 ⟨rfl, hb5⟩
      have o5 := (o4.below hb5).rd
      have hk5 := hk4.below hb5
      have hB5 := below_up hB4 hb5
      go_wp2_with fail
      refine (sumFracs_any A1 c1' qs D _ _ _ o5 HLN.out hD1 hD2 HSC.out (FrIs.self _)).mono ?_
      rintro e w6 ⟨rfl, hb6⟩
      have hk6 := hk5.below hb6
      have hB6 := below_up hB5 hb6
      obtain ⟨d0, d1, g0, g1⟩ := hk6.facts
      rw [HSQ.out]
      unfold frV
      go_wp2
      obtain ⟨e0, e1, _, _⟩ := (hk6.set_ (sumV xs (ironG xs) m).num ((sumV xs (ironG xs) m).den : Int)).facts
      have hB7 := below_set2 (B := w.heap.size) hB6 (by omega) (.int .i64 (sumV xs (ironG xs) m).num) (.int .i64 ((sumV xs (ironG xs) m).den : Int))
      refine bodyPost_ret (v := qV (sumV xs (ironG xs) m)) (by simp [results, Try.results36, go_sem, qV, frV, e0, e1]) rfl ⟨by rw [HE.out], hB7⟩

theorem qV_shape (q : Rat) : ∃ x y v, qV q = .tuple #[frV x y, .bool v] := ⟨_, _, _, rfl⟩
theorem virtR_shape (xs : List Int) (n r : Int) : ∃ x y v, virtR xs n r = .tuple #[frV x y, .bool v] := by
  unfold virtR
  split
  · exact qV_shape _
  · exact ⟨_, _, _, rfl⟩
theorem bestR_shape (xs : List Int) (n : Int) : ∃ x y v, bestR xs n = .tuple #[frV x y, .bool v] := by
  unfold bestR
  split
  · exact qV_shape _
  · exact ⟨_, _, _, rfl⟩
theorem VirtualRevenue_both (xs : List Int) (n r : Int) (hl : xs.length ≤ 1048576) : ∃ x y v,
    (∀ A c w, Rd w A c xs → Calls Try.prog 38 #[.slice A xs.length c, .int .i64 n, .int .i64 r] w (AnsIs w (.tuple #[frV x y, .bool v]))) ∧
    (∀ A c w, Rd w A c xs → xs.length ≤ c → Calls Try.prog 35 #[.slice A xs.length c, .int .i64 n, .int .i64 r] w (AnsIs w (.tuple #[frV x y, .bool v]))) := by
  obtain ⟨x, y, v, h⟩ := virtR_shape xs n r
  exact ⟨x, y, v, fun A c w hr => h ▸ SVirtualRevenue_any A c xs n r w hr hl, fun A c w hr hc => h ▸ VirtualRevenue_any A c xs n r w hr hc hl⟩
theorem BestRevenue_both (xs : List Int) (n : Int) (hl : xs.length ≤ 1048576) : ∃ x y v,
    (∀ A c w, Rd w A c xs → Calls Try.prog 40 #[.slice A xs.length c, .int .i64 n] w (AnsIs w (.tuple #[frV x y, .bool v]))) ∧
    (∀ A c w, Rd w A c xs → xs.length ≤ c → Calls Try.prog 36 #[.slice A xs.length c, .int .i64 n] w (AnsIs w (.tuple #[frV x y, .bool v]))) := by
  obtain ⟨x, y, v, h⟩ := bestR_shape xs n
  exact ⟨x, y, v, fun A c w hr => h ▸ SBestRevenue_any A c xs n w hr hl, fun A c w hr hc => h ▸ BestRevenue_any A c xs n w hr hc hl⟩
end Go.Proofs.Ytoipjhdnmiomeaa
