/-
  Chapter 9, the program: the core of bidders.
-/
import Derived.Test.YtpildecpabeanaaG13
import Derived.Test.YtpildecpabeanaaG14
import Derived.Test.YtpildecpabeanaaG04
namespace Go.Proofs.Ytpildecpabeanaa
open Go.RowKit

/-- What the bidders have of the best split. -/
noncomputable def owL (ts : List (List Int)) : List Int := vls (ow ts) ts.length
/-- What the others of each set pay at least. -/
noncomputable def leG (ts : List (List Int)) (o : Nat) : Int := ww ts (2 ^ ts.length - 1 - o) - byF (at0 (owL ts)) (2 ^ ts.length - 1 - o) 4
noncomputable def leL (ts : List (List Int)) : List Int := vls (leG ts) (2 ^ ts.length)
/-- A list filled from behind. -/
def fillB (f : Nat → Int) (P k : Nat) : List Int := vls (fun o => if P - k ≤ o then f o else 0) P
theorem fillB_len (f : Nat → Int) (P k : Nat) : (fillB f P k).length = P := vls_len _ _
theorem fillB_zero (f : Nat → Int) (P : Nat) : fillB f P 0 = List.replicate P 0 := by
  apply List.ext_getElem?
  intro i
  unfold fillB
  rcases Nat.lt_or_ge i P with h | h
  · rw [vls_at h, if_neg (by omega)]; simp [h]
  · rw [List.getElem?_eq_none (by rw [vls_len]; exact h), List.getElem?_eq_none (by simpa using h)]
theorem fillB_all (f : Nat → Int) (P : Nat) : fillB f P P = vls f P := vls_congr (fun i hi => by rw [if_pos (by omega)])
theorem fillB_set (f : Nat → Int) {P k : Nat} (h : k < P) : (fillB f P k).set (P - 1 - k) (f (P - 1 - k)) = fillB f P (k + 1) := by
  apply List.ext_getElem?
  intro i
  rcases Nat.lt_or_ge i P with hi | hi
  · rw [List.getElem?_set]
    by_cases he : P - 1 - k = i
    · rw [if_pos he, if_pos (by rw [fillB_len]; omega)]
      unfold fillB
      rw [vls_at hi, if_pos (by omega), he]
    · rw [if_neg he]
      unfold fillB
      rw [vls_at hi, vls_at hi]
      congr 1
      by_cases h1 : P - k ≤ i
      · rw [if_pos h1, if_pos (by omega)]
      · rw [if_neg h1, if_neg (by omega)]
  · rw [List.getElem?_eq_none (by rw [List.length_set, fillB_len]; exact hi), List.getElem?_eq_none (by rw [fillB_len]; exact hi)]

theorem rowx_set {w : World} {B T sz n : Nat} {v : Value} {xs : List Value} (h : w.ownsRow B T sz v n xs) {p : Addr} (u : Value) (hne : v.ownBlock ≠ some p.block) : (w.setCell p u).ownsRow B T sz v n xs := by
  refine ⟨h.1, ?_⟩
  rcases h.2 with h2 | ⟨g, cap, cur, hv, hg, hh, r⟩
  · exact .inl h2
  · refine .inr ⟨g, cap, cur, hv, hg, (Below.heap_setCell _ _ _ _ (fun e => hne ?_)).trans hh, r⟩
    rw [hv, e]; rfl
/-- Block m holds the core's six cells. -/
def Cb (w : World) (m : Nat) (vs : List Value) : Prop := vs.length = 6 ∧ w.heap[m]? = some (.cells vs.toArray 73)
theorem Cb.keep {w w' : World} {m : Nat} {vs : List Value} (h : Cb w m vs) (he : w'.heap[m]? = w.heap[m]?) : Cb w' m vs := ⟨h.1, he.trans h.2⟩
theorem Cb.lt {w : World} {m : Nat} {vs : List Value} (h : Cb w m vs) : m < w.heap.size := by
  rcases Nat.lt_or_ge m w.heap.size with h1 | h1
  · exact h1
  · have := h.2; rw [Array.getElem?_eq_none h1] at this; cases this
theorem Cb.below {w w' : World} {m : Nat} {vs : List Value} (h : Cb w m vs) (hb : Below w.heap.size w w') : Cb w' m vs := h.keep (hb.block m h.lt)
theorem Cb.cell {w : World} {m k : Nat} {vs : List Value} (h : Cb w m vs) {v : Value} (hv : vs[k]? = some v) : w.cell? ⟨m, k, none⟩ = some v := by
  unfold World.cell?
  rw [h.2]
  simpa using hv
theorem Cb.free {w : World} {m : Nat} {vs : List Value} (h : Cb w m vs) (k : Nat) : w.frozen? ⟨m, k, none⟩ = false := by
  unfold World.frozen?
  rw [h.2]
  simp
theorem Cb.set_ {w : World} {m k : Nat} {vs : List Value} (h : Cb w m vs) (v : Value) : Cb (w.setCell ⟨m, k, none⟩ v) m (vs.set k v) := by
  refine ⟨by rw [List.length_set]; exact h.1, ?_⟩
  simp only [World.setCell, Array.getElem?_modify, if_true, h.2]
  simp
theorem Cb.got {w : World} {m k : Nat} {vs : List Value} (h : Cb w m vs) (hk : k < 6) (v : Value) : (w.setCell ⟨m, k, none⟩ v).cell? ⟨m, k, none⟩ = some v :=
  (h.set_ v).cell (by rw [List.getElem?_set_self (by rw [h.1]; exact hk)])
theorem Cb.some_ {w : World} {m k : Nat} {vs : List Value} (h : Cb w m vs) (hk : k < 6) : ∃ v, w.cell? ⟨m, k, none⟩ = some v := ⟨vs[k]'(by rw [h.1]; exact hk), h.cell (List.getElem?_eq_getElem _)⟩

set_option maxRecDepth 100000 in
set_option maxHeartbeats 2000000 in
theorem coreOf_yes (A : Option Addr) (c n : Nat) (ts : List (List Int)) (w : World) (hn : ts.length = n) (h : RdR w A c ts) (hl2 : ∀ r ∈ ts, r.length ≤ 1099511627776) (hv : VTs ts) :
    Calls Try.prog 79 #[.slice A n c] w fun e w' => ∃ g, e = .returned (coV (at0 (owL ts)) (owL ts).sum (some ⟨g, 0, none⟩) (2 ^ n) (2 ^ n)) ∧ Own w' w.heap.size (some ⟨g, 0, none⟩) (2 ^ n) (leL ts) ∧ Below w.heap.size w w' := by
  have h4 : n ≤ 4 := by have := hv.1.2; omega
  have h1n : 1 ≤ n := by have := hv.1.1; omega
  obtain ⟨w0, hw0⟩ : ∃ w0, w0 = w.alloc (.cells #[.int .i64 0, .int .i64 0, .int .i64 0, .int .i64 0, .int .i64 0, .slice none 0 0] 73) := ⟨_, rfl⟩
  have HW0 := Lib.hid hw0
  have HB0 : Hid (Below w.heap.size w w0) := Lib.hid (by rw [hw0]; exact (Below.refl _ w).alloc (Nat.le_refl _) _)
  have HC0 : Hid (Cb w0 w.heap.size [.int .i64 0, .int .i64 0, .int .i64 0, .int .i64 0, .int .i64 0, .slice none 0 0]) := Lib.hid ⟨rfl, by rw [hw0]; exact heap_alloc_new w _⟩
  clear hw0
  have HBS := Lib.hid (BestSplit_yes A c n ts w0 hn (h.below HB0.out) hl2 hv)
  have HVT := Lib.hid hv
  have HPO := Lib.hid (fun (A1 : Option Addr) (c1 : Nat) (w1 : World) (h1 : Rd w1 A1 c1 (owL ts)) => paymentsOf_any A1 c1 n (owL ts) w1 (by unfold owL; rw [vls_len, hn]) h1 h4 (fun x hx => by
    unfold owL at hx
    obtain ⟨i, hi, rfl⟩ := List.mem_map.1 hx
    exact ow_bd hv.2 (List.mem_range.1 hi)))
  have HWS := Lib.hid (fun (w1 : World) (hb : Below w0.heap.size w0 w1) => worthsToSets_any A c n ts w1 hn ((h.below HB0.out).below hb) h4 hv.2)
  have hp16 := pow_len (n := n) h4
  have HLE : Hid (leL ts = vls (leG ts) (2 ^ n)) := Lib.hid (by unfold leL; rw [hn])
  have HOL : Hid ((owL ts) = vls (ow ts) n) := Lib.hid (by unfold owL; rw [hn])
  have HOB : Hid (∀ i, i < 4 → 0 ≤ at0 (owL ts) i ∧ at0 (owL ts) i ≤ 30) := Lib.hid (fun i _ => by
    unfold at0 owL
    by_cases hi : i < ts.length
    · rw [List.getD_eq_getElem?_getD, vls_at hi]; exact ow_bd hv.2 hi
    · rw [List.getD_eq_getElem?_getD, List.getElem?_eq_none (by rw [vls_len]; omega)]; simp)
  have HGE : Hid (∀ k, k < 2 ^ n → leG ts (2 ^ n - 1 - k) = ww ts k - byF (at0 (owL ts)) k 4) := Lib.hid (fun k hk => by
    unfold leG
    rw [hn, show 2 ^ n - 1 - (2 ^ n - 1 - k) = k by omega])
  have HWB : Hid (∀ S, 0 ≤ ww ts S ∧ ww ts S ≤ 120) := Lib.hid (fun S => ww_bd hv.2 (by omega) S)
  have HN := Lib.hid hn
  generalize leG ts = gL at *
  generalize at0 (owL ts) = mo at *
  generalize (owL ts).sum = sm at *
  rw [HLE.out]
  generalize 2 ^ n = P at *
  clear hn hv HLE
  go_enter Try.func79, Try.ntmps79
  go_wp2_with fail
  rw [← HW0.out]
  refine HBS.out.mono ?_
  rintro e w2 ⟨A2, c2, xs, M, rfl, o2, b2, ⟨_, hxs, hM⟩ | ⟨hno, _⟩⟩
  · have hxl : xs.length = n := by rw [hxs, setsF_len', HN.out]
    rw [hxl]
    obtain ⟨g2, rfl⟩ := own_some o2 (by omega)
    rw [HN.out] at hxs
    have HX0 := Lib.hid hxs
    clear hM
    go_wp2_with (at_make; refine wpList_make_ints rfl _ _ rfl w2.heap.size n rfl rfl (by omega) (by simp) ?_; intro w4 o4 b4)
    have HO4 : Hid (Own w4 w2.heap.size (some ⟨w2.heap.size, 0, none⟩) n (filled (owL ts) 0)) := Lib.hid (by rw [filled_zero, HOL.out, vls_len]; exact o4)
    have HS4 : Hid (Own w4 w0.heap.size (some ⟨g2, 0, none⟩) c2 (setsF (wayF ts) n)) := Lib.hid (by rw [← hxs]; exact o2.below b4)
    have HB4 := Lib.hid (b2.trans (b4.mono b2.size))
    have hg24 : g2 < w2.heap.size := o2.lt
    have hg02 : w0.heap.size ≤ g2 := (World.ownsRow.lt o2 g2 rfl).1
    clear o2 o4 b2 b4 hxs hxl
    go_loopw [24] (fun iv wr => ∃ k : Nat, k ≤ n ∧ iv = .int .i64 (k : Int) ∧ Hid (Own wr w2.heap.size (some ⟨w2.heap.size, 0, none⟩) n (filled (owL ts) k)) ∧ Hid (Own wr w0.heap.size (some ⟨g2, 0, none⟩) c2 (setsF (wayF ts) n)) ∧ Hid (Below w0.heap.size w0 wr)) (fun iv _ => n - (intOf iv).toNat)
    case atStart => exact ⟨0, Nat.zero_le _, rfl, HO4, HS4, HB4⟩
    case round =>
      obtain ⟨k, hk, rfl, HO, HS, HB⟩ := hrel
      by_cases hlt : k < n
      · obtain ⟨b, off, r, A', c', rfl, hr, hc, hcap, hrd⟩ := ((h.below HB0.out).below HB.out).at_ (k := k) (by rw [HN.out]; exact hlt)
        have hvt := HVT.out.2 r (List.mem_of_getElem? hr.out)
        obtain ⟨br, ofr, rfl⟩ := hrd.out.some_ hvt.1
        rw [hvt.1] at hc
        obtain ⟨s, hs⟩ : ∃ s, s = setOf (wayF ts) k := ⟨_, rfl⟩
        have hs8 : s < 8 := by rw [hs]; exact setOf_lt _ k
        obtain ⟨b3, o3, x, hA, hblx, hx, hcx⟩ := hrd.out.at_ (k := s) (by rw [hvt.1]; exact hs8)
        cases hA
        have hcs := HS.out.cell (show (setsF (wayF ts) n)[k]? = some (s : Int) by rw [setsF_at _ hlt, hs])
        have HOW : Hid ((owL ts)[k]? = some x) := Lib.hid (by
          rw [HOL.out, vls_at hlt]
          unfold ow
          rw [getD_row hr.out, ← hs, T_of hx.out])
        have hll : (owL ts).length = n := by rw [HOL.out, vls_len]
        have hjl : k < (filled (owL ts) k).length := by rw [filled_len _ _ (by rw [hll]; exact hk), hll]; exact hlt
        obtain ⟨y, hy⟩ := at_some hjl
        have hcy := HO.out.cell hy
        have hfy := HO.out.free k
        have HO' : Hid (Own (wr.setCell ⟨w2.heap.size, k, none⟩ (.int .i64 x)) w2.heap.size (some ⟨w2.heap.size, 0, none⟩) n (filled (owL ts) (k + 1))) := Lib.hid (by
          have h9 := HO.out.set_ k x
          rwa [filled_set _ _ _ HOW.out] at h9)
        have hst : wr.grownBy (wr.setCell ⟨w2.heap.size, k, none⟩ (.int .i64 x)) (some w2.heap.size) := (World.ownsRow.stored HO.out k (.int .i64 x)).2
        have HS' : Hid (Own (wr.setCell ⟨w2.heap.size, k, none⟩ (.int .i64 x)) w0.heap.size (some ⟨g2, 0, none⟩) c2 (setsF (wayF ts) n)) := Lib.hid (HS.out.kept_ (A2 := some ⟨w2.heap.size, 0, none⟩) hst (.inr (fun e => by have := Option.some.inj e; simp at this; omega)))
        have HB' : Hid (Below w0.heap.size w0 (wr.setCell ⟨w2.heap.size, k, none⟩ (.int .i64 x))) := Lib.hid (HB.out.setCell (p := ⟨w2.heap.size, k, none⟩) (by show w0.heap.size ≤ w2.heap.size; omega) _)
        have hs0 : (0 : Int) ≤ (s : Int) := by omega
        have hs7 : (s : Int) < 8 := by omega
        have hk0 : (0 : Int) ≤ (k : Int) := by omega
        have hkn : (k : Int) < (n : Int) := by omega
        clear hs hr hrd hvt hx hblx hcap hy hjl hll hst
        go_wp2
        go_roundw
        case rel => exact ⟨k + 1, hlt, by go_num, HO', HS', HB'⟩
        case measure => simp [intOf]; omega
      · obtain rfl : k = n := by omega
        have HOE : Hid (Own wr w2.heap.size (some ⟨w2.heap.size, 0, none⟩) k (owL ts)) := Lib.hid (by
          have h1 := filled_all (owL ts)
          rw [show (owL ts).length = k by rw [HOL.out, vls_len]] at h1
          have h2 := HO.out
          rwa [h1] at h2)
        have HP1 := Lib.hid (HPO.out (some ⟨w2.heap.size, 0, none⟩) k wr HOE.out.rd)
        have HCb := Lib.hid ((HC0.out.below HB.out))
        clear HO HS HOE
        go_wp2_with fail
        refine HP1.out.mono ?_
        rintro e w5 ⟨rfl, b5⟩
        unfold pmV
        have HB5 := Lib.hid (HB.out.trans (b5.mono HB.out.size))
        clear b5
        obtain ⟨v5, hv5⟩ : ∃ v5, v5 = w5.alloc (.cells #[.int .i64 (mo 0), .int .i64 (mo 1), .int .i64 (mo 2), .int .i64 (mo 3), .int .i64 sm] 71) := ⟨_, rfl⟩
        have HV5 := Lib.hid hv5
        have HPM : Hid (Pm v5 w5.heap.size [mo 0, mo 1, mo 2, mo 3, sm]) := Lib.hid (by rw [hv5]; exact Pm.new w5 [mo 0, mo 1, mo 2, mo 3, sm] rfl)
        have HBV : Hid (Below w0.heap.size w0 v5) := Lib.hid (by rw [hv5]; exact HB5.out.alloc HB5.out.size _)
        have hsz5 : w5.heap.size < v5.heap.size := HPM.out.lt
        clear hv5
        go_wp2_with fail
        rw [← HV5.out]
        refine (HWS.out v5 HBV.out).mono ?_
        rintro e w6 ⟨g6, c6, rfl, o6, b6⟩
        have HB6 := Lib.hid (HBV.out.trans (b6.mono HBV.out.size))
        have hsz6 : v5.heap.size ≤ w6.heap.size := b6.size
        have HPM6 := Lib.hid (HPM.out.keep (b6.block _ hsz5))
        go_wp2_with (at_make; refine wpList_make_ints rfl _ _ rfl w6.heap.size P rfl rfl (by omega) (by simp) ?_; intro w7 o7 b7)
        have HO7 : Hid (Own w7 w6.heap.size (some ⟨w6.heap.size, 0, none⟩) P (fillB gL P 0)) := Lib.hid (by rw [fillB_zero]; exact o7)
        have HS7 : Hid (Own w7 v5.heap.size (some ⟨g6, 0, none⟩) c6 (vls (fun S => ww ts S) P)) := Lib.hid (o6.below b7)
        have HB7 := Lib.hid (HB6.out.trans (b7.mono HB6.out.size))
        have HPM7 := Lib.hid (HPM6.out.keep (b7.block _ (by omega)))
        have hg6 : g6 < w6.heap.size := o6.lt
        have hsz0 : w0.heap.size ≤ w5.heap.size := HB5.out.size
        clear o6 o7 b6 b7
        have HBY := Lib.hid (fun (S : Nat) (hS : S < P) (w1 : World) => by_any mo sm S w1 (by omega) HOB.out)
        unfold pmV at HBY
        have HYB := Lib.hid (fun (S : Nat) => byF_bd S HOB.out 4 (by omega))
        go_loopw [49] (fun iv wr => ∃ j : Nat, j ≤ P ∧ iv = .int .i64 (j : Int) ∧ Hid (Own wr w6.heap.size (some ⟨w6.heap.size, 0, none⟩) P (fillB gL P j)) ∧ Hid (Own wr v5.heap.size (some ⟨g6, 0, none⟩) c6 (vls (fun S => ww ts S) P)) ∧ Hid (Pm wr w5.heap.size [mo 0, mo 1, mo 2, mo 3, sm]) ∧ Hid (Below w0.heap.size w0 wr)) (fun iv _ => P - (intOf iv).toNat)
        case atStart => exact ⟨0, Nat.zero_le _, rfl, HO7, HS7, HPM7, HB7⟩
        case round =>
          obtain ⟨j, hj, rfl, HO, HS, HPr, HB⟩ := hrel
          by_cases hlt2 : j < P
          · have hcw := HS.out.cell (vls_at (f := fun S => ww ts S) hlt2)
            have hwb := HWB.out j
            have hyb := HYB.out j
            have hge := HGE.out j hlt2
            obtain ⟨x, hx⟩ : ∃ x, x = ww ts j := ⟨_, rfl⟩
            obtain ⟨y, hy⟩ : ∃ y, y = byF mo j 4 := ⟨_, rfl⟩
            rw [← hx] at hcw hwb hge
            rw [← hy] at hyb hge
            have HGJ := Lib.hid hge
            have HB1 := Lib.hid (HBY.out j hlt2)
            rw [← hy] at HB1
            obtain ⟨q0, q1, q2, q3, q4⟩ := HPr.out.all
            simp only [show T [mo 0, mo 1, mo 2, mo 3, sm] 0 = mo 0 from rfl, show T [mo 0, mo 1, mo 2, mo 3, sm] 1 = mo 1 from rfl, show T [mo 0, mo 1, mo 2, mo 3, sm] 2 = mo 2 from rfl, show T [mo 0, mo 1, mo 2, mo 3, sm] 3 = mo 3 from rfl, show T [mo 0, mo 1, mo 2, mo 3, sm] 4 = sm from rfl] at q0 q1 q2 q3 q4
            have e1 : IntKind.i64.wrap ((P : Int) - 1) = (P : Int) - 1 := IntWalk.i64_in _ (by omega)
            have e2 : IntKind.i64.wrap ((P : Int) - 1 - (j : Int)) = ((P - 1 - j : Nat) : Int) := by rw [show (P : Int) - 1 - (j : Int) = ((P - 1 - j : Nat) : Int) by omega]; exact IntWalk.i64_in _ (by omega)
            have e3 : IntKind.i64.wrap (x - y) = x - y := IntWalk.i64_in _ (by omega)
            obtain ⟨o, ho⟩ : ∃ o, o = P - 1 - j := ⟨_, rfl⟩
            have hoP : o < P := by omega
            rw [← ho] at e2 HGJ
            have HFS : Hid ((fillB gL P j).set o (x - y) = fillB gL P (j + 1)) := Lib.hid (by rw [← HGJ.out, ho]; exact fillB_set gL hlt2)
            have hjl : o < (fillB gL P j).length := by rw [fillB_len]; exact hoP
            obtain ⟨z, hz⟩ := at_some hjl
            have HZ := Lib.hid hz
            have ho0 : (0 : Int) ≤ (o : Int) := by omega
            have hoP' : (o : Int) < (P : Int) := by omega
            have hj0 : (0 : Int) ≤ (j : Int) := by omega
            have hjP : (j : Int) < (P : Int) := by omega
            clear hx hy hge ho hz hjl hwb hyb
            go_wp2_with (go_at_call 134; refine (HB1.out _).mono ?_; rintro e w8 ⟨rfl, b8⟩; have HO8 := Lib.hid (HO.out.below b8); have hc8 := HO8.out.cell HZ.out; have hf8 := HO8.out.free o; have HST := Lib.hid (HO8.out.set_ o (x - y)); have hst := (World.ownsRow.stored HO8.out o (.int .i64 (x - y))).2; have HS8 : Hid (Own (w8.setCell ⟨w6.heap.size, o, none⟩ (.int .i64 (x - y))) v5.heap.size (some ⟨g6, 0, none⟩) c6 (vls (fun S => ww ts S) P)) := Lib.hid ((HS.out.below b8).kept_ (A2 := some ⟨w6.heap.size, 0, none⟩) hst (.inr (fun e => by have := Option.some.inj e; simp at this; omega))); have HP8 : Hid (Pm (w8.setCell ⟨w6.heap.size, o, none⟩ (.int .i64 (x - y))) w5.heap.size [mo 0, mo 1, mo 2, mo 3, sm]) := Lib.hid ((HPr.out.keep (b8.block _ HPr.out.lt)).other (by omega)); have HB8 : Hid (Below w0.heap.size w0 (w8.setCell ⟨w6.heap.size, o, none⟩ (.int .i64 (x - y)))) := Lib.hid ((HB.out.trans (b8.mono HB.out.size)).setCell (p := ⟨w6.heap.size, o, none⟩) (by show w0.heap.size ≤ w6.heap.size; omega) _); clear b8 hst)
            rw [HFS.out] at HST
            go_roundw
            case rel => exact ⟨j + 1, hlt2, by go_num, HST, HS8, HP8, HB8⟩
            case measure => simp [intOf]; omega
          · obtain rfl : j = P := by omega
            have HOE : Hid (Own wr w6.heap.size (some ⟨w6.heap.size, 0, none⟩) j (vls gL j)) := Lib.hid (by have := HO.out; rwa [fillB_all] at this)
            have HCf := Lib.hid (HC0.out.below HB.out)
            obtain ⟨q0, q1, q2, q3, q4⟩ := HPr.out.all
            simp only [show T [mo 0, mo 1, mo 2, mo 3, sm] 0 = mo 0 from rfl, show T [mo 0, mo 1, mo 2, mo 3, sm] 1 = mo 1 from rfl, show T [mo 0, mo 1, mo 2, mo 3, sm] 2 = mo 2 from rfl, show T [mo 0, mo 1, mo 2, mo 3, sm] 3 = mo 3 from rfl, show T [mo 0, mo 1, mo 2, mo 3, sm] 4 = sm from rfl] at q0 q1 q2 q3 q4
            have hc := HCf.out
            have f0 := hc.free 0
            have f1 := hc.free 1
            have f2 := hc.free 2
            have f3 := hc.free 3
            have f4 := hc.free 4
            have f5 := hc.free 5
            have r0 := hc.cell (k := 0) rfl
            have r1 := hc.cell (k := 1) rfl
            have r2 := hc.cell (k := 2) rfl
            have r3 := hc.cell (k := 3) rfl
            have r4 := hc.cell (k := 4) rfl
            have r5 := hc.cell (k := 5) rfl
            have a0 := hc.set_ (k := 0) (.int .i64 (mo 0))
            have s0 := hc.got (k := 0) (by omega) (.int .i64 (mo 0))
            have a1 := a0.set_ (k := 1) (.int .i64 (mo 1))
            have s1 := a0.got (k := 1) (by omega) (.int .i64 (mo 1))
            have a2 := a1.set_ (k := 2) (.int .i64 (mo 2))
            have s2 := a1.got (k := 2) (by omega) (.int .i64 (mo 2))
            have a3 := a2.set_ (k := 3) (.int .i64 (mo 3))
            have s3 := a2.got (k := 3) (by omega) (.int .i64 (mo 3))
            have a4 := a3.set_ (k := 4) (.int .i64 sm)
            have s4 := a3.got (k := 4) (by omega) (.int .i64 sm)
            have s5 := a4.got (k := 5) (by omega) (.slice (some ⟨w6.heap.size, 0, none⟩) j j)
            have hw0s : w.heap.size < w0.heap.size := HC0.out.lt
            have hst : ∀ (W : World) (k : Nat) (v : Value), Own W w6.heap.size (some ⟨w6.heap.size, 0, none⟩) j (vls gL j) → Own (W.setCell ⟨w.heap.size, k, none⟩ v) w6.heap.size (some ⟨w6.heap.size, 0, none⟩) j (vls gL j) := fun W k v hO => by
              unfold Own at hO ⊢
              exact rowx_set hO _ (by intro e; injection e with e; simp only at e; omega)
            have HFO : Hid (Own ((((((wr.setCell ⟨w.heap.size, 0, none⟩ (.int .i64 (mo 0))).setCell ⟨w.heap.size, 1, none⟩ (.int .i64 (mo 1))).setCell ⟨w.heap.size, 2, none⟩ (.int .i64 (mo 2))).setCell ⟨w.heap.size, 3, none⟩ (.int .i64 (mo 3))).setCell ⟨w.heap.size, 4, none⟩ (.int .i64 sm)).setCell ⟨w.heap.size, 5, none⟩ (.slice (some ⟨w6.heap.size, 0, none⟩) j j)) w.heap.size (some ⟨w6.heap.size, 0, none⟩) j (vls gL j)) := Lib.hid ((hst _ _ _ (hst _ _ _ (hst _ _ _ (hst _ _ _ (hst _ _ _ (hst _ _ _ HOE.out)))))).base (by omega))
            have HFB : Hid (Below w.heap.size w ((((((wr.setCell ⟨w.heap.size, 0, none⟩ (.int .i64 (mo 0))).setCell ⟨w.heap.size, 1, none⟩ (.int .i64 (mo 1))).setCell ⟨w.heap.size, 2, none⟩ (.int .i64 (mo 2))).setCell ⟨w.heap.size, 3, none⟩ (.int .i64 (mo 3))).setCell ⟨w.heap.size, 4, none⟩ (.int .i64 sm)).setCell ⟨w.heap.size, 5, none⟩ (.slice (some ⟨w6.heap.size, 0, none⟩) j j))) := Lib.hid (below_al4p (below_al4p (below_al4p (below_al4p (below_al4p (below_al4p (HB0.out.trans (HB.out.mono HB0.out.size))))))))
            clear hc a0 a1 a2 a3 a4 hst HO HS HB
            go_wp2
            refine bodyPost_ret (by simp [results, Try.results79, go_sem, s0, s1, s2, s3, s4, s5]; try rfl) rfl ?_
            exact ⟨w6.heap.size, rfl, HFO.out, HFB.out⟩
  · exact absurd HVT.out hno

end Go.Proofs.Ytpildecpabeanaa

/-
  Chapter 9, the program: InCore.
-/
namespace Go.Proofs.Ytpildecpabeanaa
open Go.RowKit

/-- Numbers that up to four bidders may pay. -/
def pyB (xs : List Int) : Bool := inR xs.length 1 4 && xs.all (fun x => inR x 0 30)
theorem pyB_bad {xs : List Int} (h : xs.all (fun x => inR x 0 30) = false) : pyB xs = false := by simp only [pyB, h, Bool.and_false]
theorem pyB_all {xs : List Int} (h : (xs.take xs.length).all (fun x => inR x 0 30) = true) : pyB xs = inR xs.length 1 4 := by
  rw [List.take_length] at h; simp only [pyB, h, Bool.and_true]
theorem pyB_len {xs : List Int} (h : inR xs.length 1 4 = false) : pyB xs = false := by simp only [pyB, h, Bool.false_and]

set_option maxHeartbeats 400000 in
/-- areAll at what bidders pay. -/
theorem arePays_any (A : Option Addr) (c : Nat) (xs : List Int) (w : World) (h : Rd w A c xs) (hl : xs.length ≤ 1099511627776) :
    Calls Try.prog 78 #[.slice A xs.length c, .int .i64 4, .func (.func 66) #[] #[]] w fun e w' => e = .returned (.bool (pyB xs)) ∧ w = w' := by
  by_cases h1 : 1 ≤ xs.length
  · by_cases h2 : xs.length ≤ 4
    · have HR := Lib.hid (inR_true (n := (xs.length : Int)) (lo := 1) (hi := 4) |>.2 ⟨by omega, by omega⟩)
      go_enter Try.func78, Try.ntmps78
      go_wp2
      go_loop [20] (fun i => ∃ k : Nat, k ≤ xs.length ∧ i = .int .i64 k ∧ Hid ((xs.take k).all (fun x => inR x 0 30) = true)) (fun i => xs.length - (intOf i).toNat)
      case atStart => exact ⟨0, Nat.zero_le _, rfl, Lib.hid rfl⟩
      case round =>
        obtain ⟨k, hk, rfl, HT⟩ := hrel
        by_cases hlt : k < xs.length
        · obtain ⟨b, off, x, rfl, _, hx, hc⟩ := h.at_ hlt
          go_wp2_with fail
          refine (isBid_any _ _).mono ?_
          rintro e w' ⟨rfl, rfl⟩
          cases hb : inR x 0 30 with
          | true =>
            have HT' := Lib.hid (all_step hx.out hb HT.out)
            clear hb
            go_wp2
            go_round
            case rel => exact ⟨k + 1, by omega, by go_num, HT'⟩
            case measure => simp [intOf]; omega
          | false =>
            have HE := Lib.hid (pyB_bad (all_at (p := fun x => inR x 0 30) hx.out hb))
            clear hb
            go_wp2
            go_ret
            exact ⟨by rw [HE.out]; rfl, rfl⟩
        · obtain rfl : k = xs.length := by omega
          have HE := Lib.hid (pyB_all HT.out)
          go_wp2
          go_ret
          exact ⟨by rw [HE.out, HR.out]; rfl, rfl⟩
    · have HE := Lib.hid (pyB_len (inR_false (n := (xs.length : Int)) (lo := 1) (hi := 4) |>.2 (by omega)))
      go_enter Try.func78, Try.ntmps78
      go_wp2
      go_ret
      exact ⟨by rw [HE.out]; rfl, rfl⟩
  · have HE := Lib.hid (pyB_len (inR_false (n := (xs.length : Int)) (lo := 1) (hi := 4) |>.2 (by omega)))
    go_enter Try.func78, Try.ntmps78
    go_wp2
    go_ret
    exact ⟨by rw [HE.out]; rfl, rfl⟩


set_option maxRecDepth 100000 in
theorem co_bits : ∀ n, n < 5 → ∀ S, S < 2 ^ n → ∀ k, k < 4 → ((2 ^ n - 1 - S) / 2 ^ k % 2 = if k < n then 1 - S / 2 ^ k % 2 else 0) ∧ (k < n ∨ S / 2 ^ k % 2 = 0) := by decide +kernel
theorem by_hv {o p : Nat → Int} {n S : Nat} (hn : n ≤ 4) (hS : S < 2 ^ n) : ∀ k, k ≤ n → byF o S k + byF p (2 ^ n - 1 - S) k = hv o p S k
  | 0, _ => rfl
  | k + 1, hk => by
    have ih := by_hv (o := o) (p := p) hn hS k (by omega)
    have hb := (co_bits n (by omega) S hS k (by omega)).1
    rw [if_pos (by omega)] at hb
    simp only [byF, hv, hb]
    rw [← ih]
    by_cases h1 : S / 2 ^ k % 2 = 1
    · rw [if_pos h1, if_pos h1, if_neg (by omega)]; omega
    · rw [if_neg h1, if_neg h1, if_pos (by omega)]; omega
theorem by_up {o : Nat → Int} {n S : Nat} (hn : n ≤ 4) (hS : S < 2 ^ n) : byF o S 4 = byF o S n := by
  have key : ∀ d, n + d ≤ 4 → byF o S (n + d) = byF o S n := by
    intro d
    induction d with
    | zero => intro _; rfl
    | succ d ih =>
      intro hd
      have hb := (co_bits n (by omega) S hS (n + d) (by omega)).2.resolve_left (by omega)
      show byF o S (n + d + 1) = _
      simp only [byF]
      rw [if_neg (by omega), ih (by omega)]; omega
  have := key (4 - n) (by omega)
  rwa [show n + (4 - n) = 4 by omega] at this
theorem at0_owL (ts : List (List Int)) {i : Nat} (h : i < ts.length) : at0 (owL ts) i = ow ts i := by
  unfold at0 owL; rw [List.getD_eq_getElem?_getD, vls_at h]; rfl
theorem at0_out {xs : List Int} {i : Nat} (h : xs.length ≤ i) : at0 xs i = 0 := by
  unfold at0; rw [List.getD_eq_getElem?_getD, List.getElem?_eq_none h]; rfl
theorem owL_len (ts : List (List Int)) : (owL ts).length = ts.length := vls_len _ _
theorem leL_at (ts : List (List Int)) {o : Nat} (h : o < 2 ^ ts.length) : T (leL ts) o = leG ts o := T_of (vls_at h)
theorem leL_len (ts : List (List Int)) : (leL ts).length = 2 ^ ts.length := vls_len _ _
/-- What has asks is to be in the core. -/
theorem has_iff {ts : List (List Int)} {pays : List Int} (h4 : ts.length ≤ 4) (hl : pays.length = ts.length) : HasP (at0 (owL ts)) (at0 pays) (leL ts) (2 ^ ts.length) ↔ InC ts (at0 pays) := by
  have hp := (pow_len h4).1
  have e1 : ∀ S, S < 2 ^ ts.length → byF (at0 (owL ts)) S 4 + byF (at0 pays) (2 ^ ts.length - 1 - S) 4 = hv (ow ts) (at0 pays) S ts.length := fun S hS => by
    rw [by_up h4 hS, by_up h4 (show 2 ^ ts.length - 1 - S < 2 ^ ts.length by omega), by_hv h4 hS _ (Nat.le_refl _)]
    exact hv_congr (fun i hi => at0_owL ts hi) (fun _ _ => rfl)
  constructor
  · rintro ⟨h1, h2⟩
    refine ⟨fun i hi => by rw [← at0_owL ts hi]; exact h1 i (by omega), fun S hS => ?_⟩
    have h3 := h2 (2 ^ ts.length - 1 - S) (by omega)
    rw [leL_at ts (by omega)] at h3
    unfold leG at h3
    rw [show 2 ^ ts.length - 1 - (2 ^ ts.length - 1 - S) = S by omega] at h3
    rw [← e1 S hS]; omega
  · rintro ⟨h1, h2⟩
    refine ⟨fun i hi => ?_, fun S hS => ?_⟩
    · rcases Nat.lt_or_ge i ts.length with h3 | h3
      · rw [at0_owL ts h3]; exact h1 i h3
      · rw [at0_out (by omega), at0_out (by rw [owL_len]; exact h3)]; exact Int.le_refl _
    · have h3 := h2 (2 ^ ts.length - 1 - S) (by omega)
      rw [← e1 _ (by omega), show 2 ^ ts.length - 1 - (2 ^ ts.length - 1 - S) = S by omega] at h3
      rw [leL_at ts hS]
      unfold leG
      omega

/-- What InCore tells. -/
def IcoB (ts : List (List Int)) (pays : List Int) : Prop := VTs ts ∧ pays.length = ts.length ∧ (∀ x ∈ pays, 0 ≤ x ∧ x ≤ 30) ∧ InC ts (at0 pays)
noncomputable def icoB (ts : List (List Int)) (pays : List Int) : Bool := @decide (IcoB ts pays) (Classical.propDecidable _)
theorem icoB_true {ts : List (List Int)} {pays : List Int} (h : IcoB ts pays) : icoB ts pays = true := by unfold icoB; simp [h]
theorem icoB_false {ts : List (List Int)} {pays : List Int} (h : ¬ IcoB ts pays) : icoB ts pays = false := by unfold icoB; simp [h]
theorem icoB_iff {ts : List (List Int)} {pays : List Int} : icoB ts pays = true ↔ IcoB ts pays := by unfold icoB; simp
theorem pyB_iff {xs : List Int} : pyB xs = true ↔ (1 ≤ xs.length ∧ xs.length ≤ 4) ∧ ∀ x ∈ xs, 0 ≤ x ∧ x ≤ 30 := by
  unfold pyB
  rw [Bool.and_eq_true, inR_true, List.all_eq_true]
  constructor
  · rintro ⟨h1, h2⟩; exact ⟨by omega, fun x hx => inR_true.1 (h2 x hx)⟩
  · rintro ⟨h1, h2⟩; exact ⟨by omega, fun x hx => inR_true.2 (h2 x hx)⟩

set_option maxRecDepth 100000 in
set_option maxHeartbeats 1000000 in
theorem InCore_any (A B : Option Addr) (c d : Nat) (ts : List (List Int)) (pays : List Int) (w : World) (h : RdR w A c ts) (g : Rd w B d pays) (hl2 : ∀ r ∈ ts, r.length ≤ 1099511627776) (hpl : pays.length ≤ 1099511627776) :
    Calls Try.prog 27 #[.slice A ts.length c, .slice B pays.length d] w fun e w' => e = .returned (.bool (icoB ts pays)) ∧ Below w.heap.size w w' := by
  have HC := Lib.hid (areTables_any A c ts w h hl2)
  rcases hb : vtsB ts with _ | _
  · have HE : Hid (icoB ts pays = false) := Lib.hid (icoB_false (fun h => by rw [vtsB_true h.1] at hb; cases hb))
    rw [hb] at HC
    clear hb
    go_enter Try.func27, Try.ntmps27
    go_wp2_with (go_at_call 77; refine HC.out.mono ?_; rintro e w1 ⟨rfl, hb⟩)
    go_ret
    exact ⟨by rw [HE.out]; rfl, hb⟩
  · rw [hb] at HC
    have hv := vtsB_iff.1 hb
    clear hb
    by_cases hl : pays.length = ts.length
    · have HA := Lib.hid (fun (w1 : World) (hb : Below w.heap.size w w1) => arePays_any B d pays w1 (g.below hb) hpl)
      obtain ⟨n, hn⟩ : ∃ n, n = ts.length := ⟨_, rfl⟩
      have h4 : n ≤ 4 := by have := hv.1.2; omega
      rcases hp : pyB pays with _ | _
      · have HE : Hid (icoB ts pays = false) := Lib.hid (icoB_false (fun h => by
          rw [pyB_iff.2 ⟨⟨by have := h.1.1.1; omega, by omega⟩, h.2.2.1⟩] at hp; cases hp))
        rw [hp, hl, ← hn] at HA
        rw [← hn] at HC
        rw [hl, ← hn]
        clear hp hn hv hl
        go_enter Try.func27, Try.ntmps27
        go_wp2_with (first
          | (go_at_call 77; refine HC.out.mono ?_; rintro e w1 ⟨rfl, hb⟩; have HB1 := Lib.hid hb; clear hb)
          | (go_at_call 78; refine (HA.out _ HB1.out).mono ?_; rintro e w2 ⟨rfl, rfl⟩))
        go_ret
        exact ⟨by rw [HE.out]; rfl, HB1.out⟩
      · have hpx := pyB_iff.1 hp
        have HE : Hid (icoB ts pays = hasB (at0 (owL ts)) (at0 pays) (leL ts) (2 ^ n)) := Lib.hid (by
          have hi := has_iff hv.1.2 hl
          rw [← hn] at hi
          by_cases hh : InC ts (at0 pays)
          · rw [icoB_true ⟨hv, hl, hpx.2, hh⟩, hasB_true (hi.2 hh)]
          · rw [icoB_false (fun h => hh h.2.2.2), hasB_false (fun h => hh (hi.1 h))])
        have HCO := Lib.hid (fun (w1 : World) (hb : Below w.heap.size w w1) => coreOf_yes A c n ts w1 hn.symm (h.below hb) hl2 hv)
        have HPO := Lib.hid (fun (w1 : World) (hb : Below w.heap.size w w1) => paymentsOf_any B d n pays w1 (by omega) (g.below hb) h4 hpx.2)
        have HPB : Hid (∀ i, i < 4 → 0 ≤ at0 pays i ∧ at0 pays i ≤ 30) := Lib.hid (fun i _ => by
          by_cases hi : i < pays.length
          · unfold at0; rw [List.getD_eq_getElem?_getD, List.getElem?_eq_getElem hi]; exact hpx.2 _ (List.getElem_mem hi)
          · rw [at0_out (by omega)]; omega)
        have HLL : Hid ((leL ts).length = 2 ^ n) := Lib.hid (by rw [leL_len, hn])
        have hp16 := pow_len h4
        rw [hp, hl, ← hn] at HA
        rw [← hn] at HC
        rw [hl, ← hn]
        generalize 2 ^ n = P at *
        have HHS := Lib.hid (fun (g7 : Nat) (w1 : World) (h1 : Rd w1 (some ⟨g7, 0, none⟩) P (leL ts)) => has_any (at0 (owL ts)) (at0 pays) (owL ts).sum pays.sum (some ⟨g7, 0, none⟩) P P (leL ts) w1 h1 HLL.out hp16.2 HPB.out)
        generalize leL ts = ll at *
        generalize at0 (owL ts) = mo at *
        generalize (owL ts).sum = sm at *
        generalize at0 pays = pa at *
        generalize pays.sum = ps at *
        clear hp hn hv hl hpx
        go_enter Try.func27, Try.ntmps27
        go_wp2_with (first
          | (go_at_call 77; refine HC.out.mono ?_; rintro e w1 ⟨rfl, hb⟩; have HB1 := Lib.hid hb; clear hb)
          | (go_at_call 78; refine (HA.out _ HB1.out).mono ?_; rintro e w2 ⟨rfl, rfl⟩)
          | (go_at_call 79; refine (HCO.out _ HB1.out).mono ?_; rintro e w3 ⟨g7, rfl, o3, b3⟩; have HR3 := Lib.hid o3.rd; have HB3 := Lib.hid (HB1.out.trans (b3.mono HB1.out.size)); clear o3 b3)
          | (go_at_call 81; refine (HPO.out _ HB3.out).mono ?_; rintro e w4 ⟨rfl, b4⟩; have HR4 := Lib.hid (HR3.out.below b4); have HB4 := Lib.hid (HB3.out.trans (b4.mono HB3.out.size)); clear b4)
          | (go_at_call 80; refine (HHS.out g7 _ HR4.out).mono ?_; rintro e w5 ⟨rfl, b5⟩))
        go_ret
        exact ⟨by rw [HE.out]; rfl, HB4.out.trans (b5.mono HB4.out.size)⟩
    · have HE : Hid (icoB ts pays = false) := Lib.hid (icoB_false (fun h => hl h.2.1))
      have hne : ((pays.length : Int) != (ts.length : Int)) = true := by simp; omega
      clear hv hl
      go_enter Try.func27, Try.ntmps27
      go_wp2_with (go_at_call 77; refine HC.out.mono ?_; rintro e w1 ⟨rfl, hb⟩)
      go_ret
      exact ⟨by rw [HE.out]; rfl, hb⟩

end Go.Proofs.Ytpildecpabeanaa
