/-
  The laws of chapter 6: the walks of FnSurplusAt and FnDemandAt.
-/
import Derived.Test.YtfjncipekjnbjaaKc
namespace Go.Proofs.Ytfjncipekjnbjaa
open Go.RowKit Go.Lib

theorem eight_all {t : List Int} (h : t.length ≤ 8) : t.length ≤ 1099511627776 := by omega

/-- Prices that are 1 more. -/
def upL (p : List Int) : List Int := p.map (fun x => x + 1)
theorem upL_len (p : List Int) : (upL p).length = p.length := by simp [upL]
theorem upL_snoc {p : List Int} {k : Nat} {x : Int} (h : p[k]? = some x) : (upL p).take (k + 1) = (upL p).take k ++ [x + 1] := by
  rw [List.take_add_one, show (upL p)[k]? = some (x + 1) by unfold upL; rw [List.getElem?_map, h]; rfl]
  rfl
theorem upL_T {p : List Int} {k : Nat} (h : k < p.length) : T (upL p) k = T p k + 1 := by
  have hx := T_at h
  exact T_of (by unfold upL; rw [List.getElem?_map, hx]; rfl)
theorem suB_yes {t p : List Int} (h : ¬ suB t p < 0) : VT t ∧ VP p ∧ suB t p = su t p := by
  unfold suB at h ⊢
  rcases hv : vt t && vp p with _ | _
  · rw [hv] at h; simp at h
  · obtain ⟨h1, h2⟩ := Bool.and_eq_true_iff.1 hv
    exact ⟨vt_iff.1 h1, vp_iff.1 h2, rfl⟩
theorem su_top {t p : List Int} (hv : VT t) (hp : VP p) : su t p ≤ T t 7 := by
  obtain ⟨s, hs, h⟩ := su_got (p := p) hv.2.1
  have a := hv.all
  have b := hp.bd hs
  rw [h]
  unfold lf
  rcases nat8 hs with rfl | rfl | rfl | rfl | rfl | rfl | rfl | rfl <;> omega
theorem su_up {t p : List Int} (hv : VT t) (hp : VP p) : su t (upL p) ≤ su t p ∧ su t p - 3 ≤ su t (upL p) := by
  have h3 := hp.1
  have u0 := upL_T (p := p) (k := 0) (by omega)
  have u1 := upL_T (p := p) (k := 1) (by omega)
  have u2 := upL_T (p := p) (k := 2) (by omega)
  have v := pr_vals p
  have v' := pr_vals (upL p)
  have key : ∀ s, s < 8 → lf t (upL p) s ≤ lf t p s ∧ lf t p s - 3 ≤ lf t (upL p) s := fun s hs => by
    unfold lf
    rcases nat8 hs with rfl | rfl | rfl | rfl | rfl | rfl | rfl | rfl <;> omega
  obtain ⟨s, hs, h⟩ := su_got (p := upL p) hv.2.1
  obtain ⟨r, hr, h'⟩ := su_got (p := p) hv.2.1
  have a := su_le (t := t) (p := p) hs
  have b := su_le (t := t) (p := upL p) hr
  have k1 := key s hs
  have k2 := key r hr
  omega
/-- What the law says of the surplus. -/
theorem su_says {t p : List Int} (h : ¬ suB t p < 0) : t.length = 8 ∧ p.length = 3 ∧ suB t p ≤ T t 7 ∧ (suB t (upL p) < 0 ∨ (suB t (upL p) ≤ suB t p ∧ suB t p - 3 ≤ suB t (upL p))) ∧ -1 ≤ suB t (upL p) ∧ suB t p ≤ 30 := by
  obtain ⟨hv, hp, e⟩ := suB_yes h
  have a := hv.bd (show 7 < 8 by omega)
  have b := su_top hv hp
  have ge : -1 ≤ suB t (upL p) := by
    unfold suB
    split
    · have := su_ge t (upL p); omega
    · omega
  refine ⟨hv.1, hp.1, by rw [e]; exact b, ?_, ge, by omega⟩
  by_cases h2 : suB t (upL p) < 0
  · exact .inl h2
  · obtain ⟨_, _, e2⟩ := suB_yes h2
    have := su_up hv hp
    exact .inr (by omega)

set_option maxHeartbeats 4000000 in
set_option maxRecDepth 100000 in
theorem fnSurplusAt_walk {A : Option Addr} {c : Nat} {xs : List Int} {w : World} (h : Came .u8 w A c xs) :
    Calls Try.prog 4 #[.slice A xs.length c] w fun e w' => e = .returned (.bool true) ∧ Below w.heap.size w w' := by
  by_cases hlen : 1048576 < xs.length
  · go_enter Try.func4, Try.ntmps4
    go_wp2
    go_ret
    exact ⟨rfl, Below.refl _ _⟩
  have hl1 : xs.length ≤ 1048576 := by omega
  have HD := Lib.hid (DrawSurplusAt_any A c xs w h)
  clear hlen h
  go_enter Try.func4, Try.ntmps4
  go_wp2_with fail
  refine HD.out.mono ?_
  rintro e w1 ⟨g, c1, t, g2, off, c2, p, rfl, hA, hB, ht8, htc, hp3, hpb, hpc, b1⟩
  have hpl : p.length ≤ 1099511627776 := by omega
  have hI := fun w' (h : Rd w' (some ⟨g, 0, none⟩) c1 t) (h2 : Rd w' (some ⟨g2, off, none⟩) c2 p) => SurplusAt_any (some ⟨g, 0, none⟩) (some ⟨g2, off, none⟩) c1 c2 t p w' h h2 (by omega)
  have hS := fun w' (h : Rd w' (some ⟨g, 0, none⟩) c1 t) (h2 : Rd w' (some ⟨g2, off, none⟩) c2 p) => SSurplusAt_any (some ⟨g, 0, none⟩) (some ⟨g2, off, none⟩) c1 c2 t p w' h h2 (by omega) hpl
  have hsay := su_says (t := t) (p := p)
  have HQ := Lib.hid (fun w' (A5 : Option Addr) (c5 : Nat) (h : Rd w' (some ⟨g, 0, none⟩) c1 t) (h2 : Rd w' A5 c5 (upL p)) => SurplusAt_any (some ⟨g, 0, none⟩) A5 c1 c5 t (upL p) w' h h2 (by omega))
  obtain ⟨v, hv⟩ : ∃ v, v = suB t p := ⟨_, rfl⟩
  rw [← hv] at hI hS hsay
  have HI := Lib.hid hI
  have HS := Lib.hid hS
  have HSAY := Lib.hid hsay
  have HPB := Lib.hid hpb
  have hvv : (v != v) = false := by simp
  clear hI hS hsay hv hpb HD hl1
  go_wp2_with fail
  refine (HI.out w1 hA hB).mono ?_
  rintro e w2 ⟨rfl, b2⟩
  have B2 := below_then b1 b2
  have hA2 := hA.below b2
  have hB2 := hB.below b2
  go_wp2_with fail
  refine (HS.out w2 hA2 hB2).mono ?_
  rintro e w3 ⟨rfl, n3, rfl⟩
  have B3 := below_drewN' B2 n3
  have hA3 := hA2.drewN n3
  have hB3 := hB2.drewN n3
  clear hA hB hA2 hB2 b1 b2
  by_cases hneg : v < 0
  · go_wp2_with fail
    refine (HS.out _ hA3 hB3).mono ?_
    rintro e w4 ⟨rfl, n4, rfl⟩
    go_wp2
    go_ret
    exact ⟨rfl, below_drewN' B2 (n3 + n4)⟩
  · obtain ⟨ht, hp, htop, hmore, hge, hv30⟩ := HSAY.out (by omega)
    obtain ⟨b7, o7, x7, hA7, _, hx7, hc7⟩ := hA3.at_ (k := 7) (by omega)
    obtain ⟨u, hu⟩ : ∃ u, u = suB t (upL p) := ⟨_, rfl⟩
    rw [← hu] at HQ hmore hge
    rw [T_of hx7.out] at htop
    have HX7 := Lib.hid (T_of hx7.out)
    rw [ht, hp]
    rw [ht] at HQ
    rw [upL_len, hp] at HQ
    have HP3 := Lib.hid hp
    have HT8 := Lib.hid ht
    have HMORE := Lib.hid hmore
    have HTOP := Lib.hid htop
    clear hmore hu hx7 htop ht hp HI HS hp3 HSAY hc7 hA7
    obtain ⟨w4, hw4⟩ : ∃ w4, w4 = w2.drewN n3 := ⟨_, rfl⟩
    rw [← hw4] at hA3 hB3 B3 ⊢
    clear hw4
    have HE0 : Hid (Own (w4.alloc (.cells #[] 3)) w4.heap.size (some ⟨w4.heap.size, 0, none⟩) 0 ((upL p).take 0)) := Lib.hid (own_empty w4)
    have hb0 : Below w4.heap.size w4 (w4.alloc (.cells #[] 3)) := (Below.refl _ w4).alloc (Nat.le_refl _) _
    go_wp2_with fail
    go_loopw [6, 7] (fun o i wr => ∃ (k : Nat) (A1 : Option Addr) (c1 : Nat), k ≤ 3 ∧ o = .slice A1 k c1 ∧ i = .int .i64 (k : Int) ∧ Hid (Own wr w4.heap.size A1 c1 ((upL p).take k)) ∧ Below w4.heap.size w4 wr) (fun _ i _ => 3 - (intOf i).toNat)
    case atStart => exact ⟨0, _, 0, by omega, rfl, rfl, HE0, hb0⟩
    case round =>
      obtain ⟨k, A1, c1', hk, rfl, rfl, HO, hb⟩ := hrel
      by_cases hlt : k < 3
      · obtain ⟨b, of2, x, hA5, _, hx, hcx⟩ := (hB3.below hb).at_ (k := k) (by rw [HP3.out]; exact hlt)
        have hxb := HPB.out x (List.mem_of_getElem? hx.out)
        have HT := Lib.hid (upL_snoc hx.out)
        have HN : Hid (((upL p).take k).length = k) := Lib.hid (by rw [List.length_take, upL_len, HP3.out]; omega)
        have HOL := Lib.hid (own_lit wr [x + 1] (by simp))
        have HOA : Hid (Own (wr.alloc (.cells #[.int .i64 (x + 1)] 3)) w4.heap.size A1 c1' ((upL p).take k)) := Lib.hid (World.ownsRow.alloc HO.out _)
        have HBA : Hid (Below w4.heap.size w4 (wr.alloc (.cells #[.int .i64 (x + 1)] 3))) := Lib.hid (hb.alloc hb.size _)
        have e1 : IntKind.i64.wrap (x + 1) = x + 1 := IntWalk.i64_in _ (by omega)
        have hk3 : (k : Int) < 3 := by omega
        have hk0 : (0 : Int) ≤ (k : Int) := by omega
        have hk1 : k + 1 ≤ 3 := hlt
        injection hA5 with hA5
        injection hA5 with hg5 ho5
        subst hg5 ho5
        clear hx hxb hlt HO
        go_wp2_with (at_builtin; refine wpList_append_any rfl _ _ 24 Try.underlying24 rfl w4.heap.size A1 c1' ((upL p).take k) k HN.out rfl HOA.out _ _ [x + 1] 1 rfl rfl HOL.out.rd (by omega) HBA.out.size ?_; intro A6 c6 w6 o6 g6)
        have B6 := Own.grownBelow0 HBA.out HOA.out HBA.out.size g6
        have HO6 : Hid (Own w6 w4.heap.size A6 c6 ((upL p).take (k + 1))) := Lib.hid (by rw [HT.out]; exact o6)
        go_wp2
        go_roundw
        case rel => exact ⟨k + 1, A6, c6, hk1, rfl, by go_num, HO6, B6⟩
        case measure => simp [intOf]; omega
      · obtain rfl : k = 3 := by omega
        have HOQ : Hid (Own wr w4.heap.size A1 c1' (upL p)) := Lib.hid (by have := HO.out; rwa [List.take_of_length_le (by rw [upL_len, HP3.out]; omega)] at this)
        have hAr := hA3.below hb
        have BB := below_then B3 hb
        clear HO hlt hb
        go_wp2_with fail
        refine (HQ.out _ A1 c1' hAr HOQ.out.rd).mono ?_
        rintro e w7 ⟨rfl, b7'⟩
        have hA7 := hAr.below b7'
        obtain ⟨b8, o8, x8, hA8, _, hx8, hc8⟩ := hA7.at_ (k := 7) (by rw [HT8.out]; omega)
        injection hA8 with hA8
        injection hA8 with hg8 ho8
        subst hg8 ho8
        have hx88 : x8 = x7 := by
          have h1 := T_of hx8.out
          rw [← h1]
          exact HX7.out
        subst hx88
        have htop := HTOP.out
        have B9 := below_then BB b7'
        have e1 : IntKind.i64.wrap (v - 3) = v - 3 := IntWalk.i64_in _ (by omega)
        have e2 : IntKind.i64.wrap (8 - 1) = 7 := rfl
        rcases HMORE.out with hm | ⟨hm1, hm2⟩
        · clear hx8 hA7
          go_wp2
          go_ret
          exact ⟨rfl, B9⟩
        · by_cases hu0 : u < 0
          · clear hx8 hA7 hm1 hm2
            go_wp2
            go_ret
            exact ⟨rfl, B9⟩
          · clear hx8 hA7
            go_wp2
            go_ret
            exact ⟨rfl, B9⟩

end Go.Proofs.Ytfjncipekjnbjaa
