/-
  Chapter 7: loads by the model.
-/
import Derived.Test.YtccbjgajmjcpjabG17
import Derived.Test.YtccbjgajmjcpjabG27
import Derived.Test.YtccbjgajmjcpjabG08
import Derived.Test.YtccbjgajmjcpjabG35
import Derived.Test.YtccbjgajmjcpjabG31
import Derived.Test.YtccbjgajmjcpjabG11
import Derived.Deep.RegionWith
import Derived.Test.YtccbjgajmjcpjabG25
import Derived.Test.YtccbjgajmjcpjabG34
namespace Go.Proofs.Ytccbjgajmjcpjab
open Go.RowKit

theorem pr7_step (p : List Int) {k : Nat} (hk : k < 3) : prTo p 7 (k + 1) = prTo p 7 k + T p k := by
  rcases nat3 hk with rfl | rfl | rfl <;> simp [prTo]
theorem pr7_bd {p : List Int} (hp : VP p) {k : Nat} (hk : k ≤ 3) : 0 ≤ prTo p 7 k ∧ prTo p 7 k ≤ 120 := by
  have := prTo_bd hp (s := 7) k hk
  omega

set_option maxRecDepth 100000 in
set_option maxHeartbeats 1000000 in
theorem Sload_any (A B : Option Addr) (c d n : Nat) (ts : List (List Int)) (p : List Int) (w : World) (hn : ts.length = n) (h : RdR w A c ts) (g : Rd w B d p) (hv : ∀ t ∈ ts, VT t) (h4 : n ≤ 4) (hp : VP p) :
    Calls Try.prog 99 #[.slice A n c, .slice B 3 d] w fun e w' => e = .returned (.int .i64 (lo ts p)) ∧ ∃ n, w' = w.drewN n := by
  have h3 := hp.1
  have HN := Lib.hid hn
  have HP7 := Lib.hid (fun k (hk : k ≤ 3) => pr7_bd hp hk)
  have HV3 := Lib.hid hp.2
  have HSB := Lib.hid (fun k => suS_take_bd hv hp k)
  have HVT := Lib.hid hv
  have HVP := Lib.hid hp
  have H3 := Lib.hid h3
  clear hp hn hv h3
  go_enter Try.func99, Try.ntmps99
  go_wp2
  go_loopw [5, 6] (fun o i wr => ∃ k m : Nat, k ≤ 3 ∧ o = .int .i64 (prTo p 7 k) ∧ i = .int .i64 (k : Int) ∧ wr = w.drewN m) (fun _ i _ => 3 - (intOf i).toNat)
  case atStart => exact ⟨0, 0, by omega, rfl, rfl, rfl⟩
  case round =>
    obtain ⟨k, m, hk, rfl, rfl, rfl⟩ := hrel
    by_cases hlt : k < 3
    · obtain ⟨b, off, x, rfl, _, hx, hc⟩ := g.at_ (k := k) (by rw [H3.out]; exact hlt)
      have hT := T_of hx.out
      have HPS : Hid (prTo p 7 (k + 1) = prTo p 7 k + x) := Lib.hid (by rw [pr7_step p hlt, hT])
      have hb := HP7.out k (by omega)
      have hxb := HV3.out k hlt
      rw [hT] at hxb
      obtain ⟨V, hV⟩ : ∃ V, V = prTo p 7 k := ⟨_, rfl⟩
      rw [← hV] at hb HPS ⊢
      have e1 : IntKind.i64.wrap (V + x) = V + x := IntWalk.i64_in _ (by omega)
      have hk3 : (k : Int) < 3 := by omega
      have hk1 : k + 1 ≤ 3 := hlt
      clear hV hx hT hb hxb hlt
      go_wp2
      go_roundw
      case rel => exact ⟨k + 1, _, hk1, by rw [HPS.out], by go_num, rfl⟩
      case measure => simp [intOf]; omega
    · obtain rfl : k = 3 := by omega
      have hpb := HP7.out 3 (by omega)
      have HLO : Hid (∀ k, prTo p 7 3 + suS (ts.take k) p = pr p 7 + suS (ts.take k) p) := Lib.hid (fun _ => rfl)
      obtain ⟨P, hP⟩ : ∃ P, P = prTo p 7 3 := ⟨_, rfl⟩
      rw [← hP] at hpb HLO ⊢
      rw [show ((3 : Nat) : Int) = 3 from rfl]
      have HS0 : Hid (P = P + suS (ts.take 0) p) := Lib.hid (by simp [suS])
      clear hP hlt HP7 HV3
      go_wp2
      go_loopw [5, 7] (fun o i wr => ∃ k m : Nat, k ≤ n ∧ o = .int .i64 (P + suS (ts.take k) p) ∧ i = .int .i64 (k : Int) ∧ wr = w.drewN m) (fun _ i _ => n - (intOf i).toNat)
      case atStart => exact ⟨0, m, by omega, by rw [← HS0.out], rfl, rfl⟩
      case round =>
        obtain ⟨k, m, hk, rfl, rfl, rfl⟩ := hrel
        by_cases hlt : k < n
        · obtain ⟨b, off, r, A', c', rfl, hr, hc, hcap, hrd⟩ := h.at_ (k := k) (by rw [HN.out]; exact hlt)
          have hvr := HVT.out r (List.mem_of_getElem? hr.out)
          have HSU := Lib.hid (Ssurplus_any A' B c' d r p (w.drewN m) (hrd.out.drewN _) (g.drewN _) hvr HVP.out)
          have HST := Lib.hid (suS_step p hr.out)
          have hsb := HSB.out k
          rw [HN.out] at hsb
          have hub := suTo_bd hvr HVP.out (k := 8) (Nat.le_refl _)
          have hue : su r p = suTo r p 8 := rfl
          rw [← hue] at hub
          rw [hvr.1] at hc HSU
          rw [H3.out] at HSU
          obtain ⟨u, hu⟩ : ∃ u, u = su r p := ⟨_, rfl⟩
          rw [← hu] at hub HST HSU
          obtain ⟨V, hV⟩ : ∃ V, V = suS (ts.take k) p := ⟨_, rfl⟩
          rw [← hV] at hsb HST ⊢
          have e1 : IntKind.i64.wrap (P + V + u) = P + (V + u) := by rw [IntWalk.i64_in _ (by omega)]; omega
          have hk1 : k + 1 ≤ n := hlt
          have hkn : (k : Int) < (n : Int) := by omega
          clear hV hu hue hub hsb hr hvr hrd hcap hlt
          go_wp2_with fail
          refine HSU.out.mono ?_
          rintro e w5 ⟨rfl, q, rfl⟩
          go_wp2
          go_roundw
          case rel => exact ⟨k + 1, _, hk1, by rw [HST.out], by go_num, rfl⟩
          case measure => simp [intOf]; omega
        · obtain rfl : k = n := by omega
          have HE : Hid (P + suS (ts.take k) p = lo ts p) := Lib.hid (by rw [HLO.out, List.take_of_length_le (by rw [HN.out]; omega)]; rfl)
          go_wp2
          go_ret
          exact ⟨by rw [HE.out]; rfl, _, rfl⟩

/-- What LoadAt tells. -/
noncomputable def loB (ts : List (List Int)) (p : List Int) : Int := if vtsB ts && vp p then lo ts p else -1
theorem loB_no {ts : List (List Int)} {p : List Int} (h : (vtsB ts && vp p) = false) : loB ts p = -1 := by unfold loB; rw [h]; rfl
theorem loB_yes {ts : List (List Int)} {p : List Int} (h1 : vtsB ts = true) (h2 : vp p = true) : loB ts p = lo ts p := by unfold loB; rw [h1, h2]; rfl

set_option maxHeartbeats 800000 in
theorem SLoadAt_any (A B : Option Addr) (c d : Nat) (ts : List (List Int)) (p : List Int) (w : World) (h : RdR w A c ts) (g : Rd w B d p) (hl : ts.length ≤ 1099511627776) (hl2 : ∀ r ∈ ts, r.length ≤ 1099511627776) (gl : p.length ≤ 1099511627776) :
    Calls Try.prog 34 #[.slice A ts.length c, .slice B p.length d] w fun e w' => e = .returned (.int .i64 (loB ts p)) ∧ ∃ n, w' = w.drewN n := by
  have HV := Lib.hid (SvalidTables_any A c ts w h hl hl2)
  have HQ := Lib.hid (fun w1 (g : Rd w1 B d p) => SvalidPrices_any B d p w1 g gl)
  rcases hv : vtsB ts with _ | _
  · have HE := Lib.hid (loB_no (ts := ts) (p := p) (by rw [hv]; rfl))
    rw [hv] at HV
    clear hv
    go_enter Try.func34, Try.ntmps34
    go_wp2_with fail
    refine HV.out.mono ?_
    rintro e w1 ⟨rfl, n, rfl⟩
    go_wp2
    go_ret
    exact ⟨by rw [HE.out]; rfl, _, rfl⟩
  rcases hp : vp p with _ | _
  · have HE := Lib.hid (loB_no (ts := ts) (p := p) (by rw [hp]; simp))
    rw [hv] at HV
    rw [hp] at HQ
    clear hv hp
    go_enter Try.func34, Try.ntmps34
    go_wp2_with fail
    refine HV.out.mono ?_
    rintro e w1 ⟨rfl, n, rfl⟩
    go_wp2_with fail
    refine (HQ.out _ (g.drewN _)).mono ?_
    rintro e w1 ⟨rfl, m, rfl⟩
    go_wp2
    go_ret
    exact ⟨by rw [HE.out]; rfl, _, rfl⟩
  · have HE := Lib.hid (loB_yes hv hp)
    have hvt := vtsB_iff.1 hv
    have hvp := vp_iff.1 hp
    have HL := Lib.hid (fun w1 (h : RdR w1 A c ts) (g : Rd w1 B d p) => Sload_any A B c d ts.length ts p w1 rfl h g hvt.2 hvt.1.2 hvp)
    have h3 := hvp.1
    rw [hv] at HV
    rw [hp] at HQ
    rw [h3] at HQ ⊢
    clear hv hp hvt hvp h3
    go_enter Try.func34, Try.ntmps34
    go_wp2_with fail
    refine HV.out.mono ?_
    rintro e w1 ⟨rfl, n, rfl⟩
    go_wp2_with fail
    refine (HQ.out _ (g.drewN _)).mono ?_
    rintro e w1 ⟨rfl, m, rfl⟩
    go_wp2_with fail
    refine (HL.out _ (h.drewN _) (g.drewN _)).mono ?_
    rintro e w1 ⟨rfl, k, rfl⟩
    go_wp2
    go_ret
    exact ⟨by rw [HE.out]; rfl, _, rfl⟩

end Go.Proofs.Ytccbjgajmjcpjab

/-
  Chapter 7: raised prices and the steepest set by the model.
-/
namespace Go.Proofs.Ytccbjgajmjcpjab
open Go.RowKit

theorem wp_onceC {P : Program} {c : Code} {K : Act → World → Prop} {n : Nat} {Q : Exit → Act → World → Prop} {a : Act} {w : World} {a0 : Act} {w0 : World} (h : ∀ K1 : Act → World → Prop, K1 a0 w0 → c.wp P (Exit.inBlock n (Exit.then K1 Q)) a w) (hk : K a0 w0) : c.wp P (Exit.inBlock n (Exit.then K Q)) a w := h K hk
/-- The first k things are raised. -/
def rzTo (p : List Int) (s k : Nat) : List Int := [T p 0 + (if 0 < k then ((s % 2 : Nat) : Int) else 0), T p 1 + (if 1 < k then ((s / 2 % 2 : Nat) : Int) else 0), T p 2 + (if 2 < k then ((s / 4 % 2 : Nat) : Int) else 0)]
theorem rzTo_zero {p : List Int} (s : Nat) (h : p.length = 3) : rzTo p s 0 = p := by
  match p, h with
  | [a, b, c], _ => simp [rzTo, T]
theorem rzTo_end (p : List Int) (s : Nat) : rzTo p s 3 = rz p s := by simp [rzTo, rz]
theorem rzTo_len (p : List Int) (s k : Nat) : (rzTo p s k).length = 3 := rfl
theorem rzTo_at {p : List Int} {s k : Nat} (hk : k < 3) : (rzTo p s k)[k]? = some (T p k) := by
  rcases nat3 hk with rfl | rfl | rfl <;> simp [rzTo]
theorem rzTo_step {p : List Int} {s k : Nat} (hk : k < 3) : (rzTo p s k).set k (T p k + ((s / 2 ^ k % 2 : Nat) : Int)) = rzTo p s (k + 1) := by
  rcases nat3 hk with rfl | rfl | rfl <;> simp [rzTo]

set_option maxHeartbeats 1000000 in
theorem Sraised_any (A : Option Addr) (c s : Nat) (p : List Int) (w : World) (h : Rd w A c p) (hp : VP p) (hs : s < 8) :
    Calls Try.prog 107 #[.slice A p.length c, .int .i64 (s : Int)] w (OwnIs w (rz p s)) := by
  have h3 := hp.1
  have hb0 := (Below.refl w.heap.size w).alloc (Nat.le_refl _) (.cells #[] 3)
  have h1 := h.below hb0
  have HV := Lib.hid hp.2
  have HZ := Lib.hid (rzTo_zero s h3)
  clear h hp
  go_enter Try.func107, Try.ntmps107
  go_wp2_with (at_builtin; refine wpList_clone rfl _ _ rfl w.heap.size w.heap.size rfl (own_empty w) A c p rfl h1 (by omega) hb0.size ?_; intro g c1 w1 ho hb1)
  have B1 := hb0.trans hb1
  have H3 := Lib.hid h3
  have ho0 : Hid (Own w1 w.heap.size (some ⟨g, 0, none⟩) c1 (rzTo p s 0)) := Lib.hid (by rw [HZ.out]; exact ho)
  clear hb0 hb1 h1 ho h3
  go_loopw [6] (fun i wr => ∃ k : Nat, k ≤ 3 ∧ i = .int .i64 (k : Int) ∧ Hid (Own wr w.heap.size (some ⟨g, 0, none⟩) c1 (rzTo p s k)) ∧ Below w.heap.size w wr) (fun i _ => 3 - (intOf i).toNat)
  case atStart => exact ⟨0, by omega, rfl, ho0, B1⟩
  case round =>
    obtain ⟨k, hk, rfl, HO, hb⟩ := hrel
    by_cases hlt : k < 3
    · have hc := HO.out.cell (rzTo_at (p := p) (s := s) hlt)
      have hf := HO.out.free k
      have hx := HV.out k hlt
      have HS : Hid (Own (wr.setCell ⟨g, k, none⟩ (.int .i64 (T p k + ((s / 2 ^ k % 2 : Nat) : Int)))) w.heap.size (some ⟨g, 0, none⟩) c1 (rzTo p s (k + 1))) := Lib.hid (by rw [← rzTo_step hlt]; exact HO.out.set_ k _)
      have HB2 := Lib.hid (hb.setCell HO.out.ge (p := ⟨g, k, none⟩) (.int .i64 (T p k + ((s / 2 ^ k % 2 : Nat) : Int))))
      have HB := Lib.hid (fun w' => Sbit_any s k hs hlt w')
      have hbl : s / 2 ^ k % 2 < 2 := Nat.mod_lt _ (by omega)
      obtain ⟨X, hX⟩ : ∃ X, X = s / 2 ^ k % 2 := ⟨_, rfl⟩
      rw [← hX] at HS HB2 HB hbl
      obtain ⟨V, hV⟩ : ∃ V, V = T p k := ⟨_, rfl⟩
      rw [← hV] at HS HB2 hc hx
      have e1 : IntKind.i64.wrap (V + (X : Int)) = V + (X : Int) := IntWalk.i64_in _ (by omega)
      have hk3 : (k : Int) < 3 := by omega
      have hk0 : (0 : Int) ≤ (k : Int) := by omega
      have hk1 : k + 1 ≤ 3 := hlt
      clear hX hV hx hbl hlt
      go_wp2_with fail
      refine wp_onceC (a0 := ?a0) (w0 := ?w0) (fun K1 h1 => ?first) ?rest
      case first =>
        go_region_with (go_at_call 159; refine (HB.out _).mono ?_; rintro e w6 ⟨rfl, rfl⟩)
        all_goals exact h1
      case rest =>
        go_wp2
        exact ⟨⟨k + 1, hk1, by go_num, Lib.hid (HS.out.drewN 1), HB2.out.drew⟩, by simp only [intOf]; omega⟩
    · obtain rfl : k = 3 := by omega
      go_wp2
      go_ret
      exact ⟨some ⟨g, 0, none⟩, c1, rfl, by rw [← rzTo_end]; exact HO.out, hb⟩

theorem Sraised3_any (A : Option Addr) (c s : Nat) (p : List Int) (w : World) (h : Rd w A c p) (hp : VP p) (hs : s < 8) :
    Calls Try.prog 107 #[.slice A 3 c, .int .i64 (s : Int)] w (OwnIs w (rz p s)) := by
  have := Sraised_any A c s p w h hp hs
  rwa [hp.1] at this

/-- How many of the first k things a set has. -/
def szTo (s : Nat) : Nat → Nat
  | 0 => 0
  | k + 1 => szTo s k + s / 2 ^ k % 2
theorem szTo_le (s : Nat) : ∀ k, szTo s k ≤ k
  | 0 => Nat.le_refl _
  | k + 1 => by have := szTo_le s k; have := Nat.mod_lt (s / 2 ^ k) (show 0 < 2 by omega); simp only [szTo]; omega
theorem szTo_end (s : Nat) : szTo s 3 = sz s := by simp [szTo, sz]

set_option maxHeartbeats 800000 in
theorem SsizeOf_any (s : Nat) (hs : s < 8) (w : World) :
    Calls Try.prog 161 #[.int .i64 (s : Int)] w fun e w' => e = .returned (.int .i64 ((sz s : Nat) : Int)) ∧ ∃ n, w' = w.drewN n := by
  go_enter Try.func161, Try.ntmps161
  go_wp2_with fail
  go_loopw [3, 4] (fun o i wr => ∃ k m : Nat, k ≤ 3 ∧ o = .int .i64 ((szTo s k : Nat) : Int) ∧ i = .int .i64 (k : Int) ∧ wr = w.drewN m) (fun _ i _ => 3 - (intOf i).toNat)
  case atStart => exact ⟨0, 0, by omega, rfl, rfl, rfl⟩
  case round =>
    obtain ⟨k, m, hk, rfl, rfl, rfl⟩ := hrel
    by_cases hlt : k < 3
    · have HBit := Lib.hid (Sbit_any s k hs hlt (w.drewN m))
      have HS : Hid (szTo s (k + 1) = szTo s k + s / 2 ^ k % 2) := Lib.hid rfl
      have hb1 := szTo_le s k
      have hbl : s / 2 ^ k % 2 < 2 := Nat.mod_lt _ (by omega)
      obtain ⟨X, hX⟩ : ∃ X, X = s / 2 ^ k % 2 := ⟨_, rfl⟩
      rw [← hX] at HS HBit hbl
      obtain ⟨V, hV⟩ : ∃ V, V = szTo s k := ⟨_, rfl⟩
      rw [← hV] at HS hb1 ⊢
      have e1 : IntKind.i64.wrap ((V : Int) + (X : Int)) = ((V + X : Nat) : Int) := by rw [IntWalk.i64_in _ (by omega)]; omega
      have hk3 : (k : Int) < 3 := by omega
      have hk1 : k + 1 ≤ 3 := hlt
      clear hX hV hbl hlt hb1
      go_wp2_with fail
      refine HBit.out.mono ?_
      rintro e w5 ⟨rfl, rfl⟩
      go_wp2
      go_roundw
      case rel => exact ⟨k + 1, _, hk1, by rw [HS.out, Int.natCast_add], by go_num, rfl⟩
      case measure => simp [intOf]; omega
    · obtain rfl : k = 3 := by omega
      go_wp2
      go_ret
      exact ⟨by rw [szTo_end]; rfl, _, rfl⟩

end Go.Proofs.Ytccbjgajmjcpjab

/-
  Chapter 7: the steepest set by the model.
-/
namespace Go.Proofs.Ytccbjgajmjcpjab
open Go.RowKit

theorem SallL_any (w : World) : Calls Try.prog 113 #[] w fun e w' => e = .returned (.int .i64 7) ∧ w = w' := by
  have HP : Hid (∀ w1, Calls Try.prog 124 #[.int .i64 3] w1 fun e w' => e = .returned (.int .i64 8) ∧ w1 = w') := Lib.hid (fun w1 => Spower_any 3 (by omega) w1)
  go_enter Try.func113, Try.ntmps113
  go_wp2_with (go_at_call 124; refine (HP.out _).mono ?_; rintro e w1 ⟨rfl, rfl⟩)
  go_ret
  exact ⟨rfl, rfl⟩

theorem stTo_up {G : Nat → Int} {k : Nat} (h : G k < G (stTo G k) ∨ (G k = G (stTo G k) ∧ 0 < stTo G k ∧ sz k < sz (stTo G k))) : stTo G (k + 1) = k := by rw [stTo, if_pos h]
theorem stTo_as {G : Nat → Int} {k : Nat} (h : ¬ (G k < G (stTo G k) ∨ (G k = G (stTo G k) ∧ 0 < stTo G k ∧ sz k < sz (stTo G k)))) : stTo G (k + 1) = stTo G k := by rw [stTo, if_neg h]

set_option maxRecDepth 100000 in
set_option maxHeartbeats 2000000 in
theorem Ssteepest_any (A B : Option Addr) (c d n : Nat) (ts : List (List Int)) (p : List Int) (w : World) (h : RdR w A c ts) (g : Rd w B d p) (hv : ∀ t ∈ ts, VT t) (hn : ts.length = n) (h4 : n ≤ 4) (hp : Lw p) :
    Calls Try.prog 106 #[.slice A n c, .slice B 3 d] w fun e w' => e = .returned (.int .i64 ((st ts p : Nat) : Int)) ∧ Below w.heap.size w w' := by
  have HL0 := Lib.hid (Sload_any A B c d n ts p w hn h g hv h4 hp.vp)
  have HRA := Lib.hid (fun W (gW : Rd W B d p) (s : Nat) (hs : s < 8) => Sraised3_any B d s p W gW hp.vp hs)
  have HLO := Lib.hid (fun W (hW : RdR W A c ts) (C : Option Addr) (f s : Nat) (r : Rd W C f (rz p s)) => Sload_any A C c f n ts (rz p s) W hn hW r hv h4 (hp.rz s))
  have HZ : Hid (lo ts p = lo ts (rz p 0)) := Lib.hid (by rw [rz_zero hp.1])
  have HST : Hid (st ts p = stTo (fun s => lo ts (rz p s)) 8) := Lib.hid rfl
  obtain ⟨G, hG⟩ : ∃ G : Nat → Int, G = fun s => lo ts (rz p s) := ⟨_, rfl⟩
  have HG : Hid (∀ s, lo ts (rz p s) = G s) := Lib.hid (fun s => by rw [hG])
  rw [← hG] at HST
  clear hv hn hp hG
  go_enter Try.func106, Try.ntmps106
  go_wp2_with fail
  refine HL0.out.mono ?_
  rintro e w1 ⟨rfl, n1, rfl⟩
  go_wp2_with fail
  go_loopw [5, 6, 7] (fun av mv iv wr => ∃ k : Nat, 1 ≤ k ∧ k ≤ 8 ∧ av = .int .i64 ((stTo G k : Nat) : Int) ∧ mv = .int .i64 (G (stTo G k)) ∧ iv = .int .i64 (k : Int) ∧ Below w.heap.size w wr) (fun _ _ iv _ => 8 - (intOf iv).toNat)
  case atStart => exact ⟨1, by omega, by omega, by simp [stTo], by rw [HZ.out, HG.out]; simp [stTo], rfl, below_drewN' (Below.refl _ _) n1⟩
  case round =>
    obtain ⟨k, hk0, hk, rfl, rfl, rfl, hb⟩ := hrel
    by_cases hlt : k < 8
    · have hk7 : (k : Int) ≤ 7 := by omega
      have hk1 : k + 1 ≤ 8 := hlt
      have hal := stTo_lt G (k := k) hk0
      have HUP := Lib.hid (stTo_up (G := G) (k := k))
      have HAS := Lib.hid (stTo_as (G := G) (k := k))
      have HR1 := Lib.hid (HRA.out wr (g.below hb) k hlt)
      have HGk := Lib.hid (HG.out k)
      obtain ⟨a, ha⟩ : ∃ a, a = stTo G k := ⟨_, rfl⟩
      rw [← ha] at HUP HAS hal ⊢
      have ha8 : a < 8 := by omega
      have hrw := h.below hb
      have hsz := hb.size
      have HSa := Lib.hid (fun w' => SsizeOf_any a ha8 w')
      have HSk := Lib.hid (fun w' => SsizeOf_any k hlt w')
      obtain ⟨M, hM⟩ : ∃ M, M = G a := ⟨_, rfl⟩
      obtain ⟨X, hX⟩ : ∃ X, X = G k := ⟨_, rfl⟩
      have HMM := Lib.hid hM
      have HXX := Lib.hid hX
      rw [← hM] at HUP HAS ⊢
      rw [← hX] at HUP HAS HGk
      obtain ⟨R, hR⟩ : ∃ R, R = sz a := ⟨_, rfl⟩
      obtain ⟨S, hS⟩ : ∃ S, S = sz k := ⟨_, rfl⟩
      rw [← hR, ← hS] at HUP HAS
      rw [← hR] at HSa
      rw [← hS] at HSk
      clear ha hM hX hlt hR hS
      go_wp2_with fail
      refine (SallL_any _).mono ?_
      rintro e w2 ⟨rfl, rfl⟩
      go_wp2_with fail
      refine HR1.out.mono ?_
      rintro e w3 ⟨A3, c3, rfl, o3, b3⟩
      have HL3 := Lib.hid (HLO.out w3 (hrw.below b3) A3 c3 k o3.rd)
      rw [HGk.out] at HL3
      rw [rz_len]
      have hb3 := hb.trans (b3.mono hsz)
      clear HR1 o3 b3
      go_wp2_with fail
      refine HL3.out.mono ?_
      rintro e w4 ⟨rfl, m4, rfl⟩
      have hb4 := below_drewN' hb3 m4
      clear HL3
      by_cases h1 : X < M
      · have HE := Lib.hid (HUP.out (.inl h1))
        have hq : decide (X < M) = true := by simp [h1]
        clear h1 HUP HAS
        go_wp2
        go_roundw
        case rel => exact ⟨k + 1, by omega, hk1, by rw [HE.out], by rw [HE.out, ← HXX.out], by go_num, hb4⟩
        case measure => simp [intOf]; omega
      · have hq : decide (X < M) = false := by simpa using h1
        by_cases h2 : X = M
        · have hq2 : (X == M) = true := by simp [h2]
          by_cases h3 : a = 0
          · have HE := Lib.hid (HAS.out (by omega))
            subst h3
            clear h1 h2 HUP HAS
            go_wp2
            go_roundw
            case rel => exact ⟨k + 1, by omega, hk1, by rw [HE.out]; rfl, by rw [HE.out, ← HMM.out], by go_num, hb4⟩
            case measure => simp [intOf]; omega
          · have ha0 : (0 : Int) < (a : Int) := by omega
            have hap : 0 < a := by omega
            by_cases h4 : S < R
            · have HE := Lib.hid (HUP.out (.inr ⟨h2, hap, h4⟩))
              have hq4 : (S : Int) < (R : Int) := by omega
              clear h1 h2 h3 h4 HUP HAS
              go_wp2_with fail
              refine (HSk.out _).mono ?_
              rintro e w5 ⟨rfl, m5, rfl⟩
              go_wp2_with fail
              refine (HSa.out _).mono ?_
              rintro e w6 ⟨rfl, m6, rfl⟩
              have hb6 := below_drewN' hb3 (m4 + m5 + m6)
              go_wp2
              go_roundw
              case rel => exact ⟨k + 1, by omega, hk1, by rw [HE.out], by rw [HE.out, ← HXX.out], by go_num, hb6⟩
              case measure => simp [intOf]; omega
            · have HE := Lib.hid (HAS.out (by omega))
              have hq4 : ¬ (S : Int) < (R : Int) := by omega
              clear h1 h2 h3 h4 HUP HAS
              go_wp2_with fail
              refine (HSk.out _).mono ?_
              rintro e w5 ⟨rfl, m5, rfl⟩
              go_wp2_with fail
              refine (HSa.out _).mono ?_
              rintro e w6 ⟨rfl, m6, rfl⟩
              have hb6 := below_drewN' hb3 (m4 + m5 + m6)
              go_wp2
              go_roundw
              case rel => exact ⟨k + 1, by omega, hk1, by rw [HE.out], by rw [HE.out, ← HMM.out], by go_num, hb6⟩
              case measure => simp [intOf]; omega
        · have HE := Lib.hid (HAS.out (by omega))
          have hq2 : (X == M) = false := by simpa using h2
          clear h1 h2 HUP HAS
          go_wp2
          go_roundw
          case rel => exact ⟨k + 1, by omega, hk1, by rw [HE.out], by rw [HE.out, ← HMM.out], by go_num, hb4⟩
          case measure => simp [intOf]; omega
    · obtain rfl : k = 8 := by omega
      go_wp2_with fail
      refine (SallL_any _).mono ?_
      rintro e w2 ⟨rfl, rfl⟩
      go_wp2
      go_ret
      exact ⟨by rw [HST.out]; rfl, hb⟩

end Go.Proofs.Ytccbjgajmjcpjab

/-
  Chapter 7: ClimbPrices by the model.
-/
namespace Go.Proofs.Ytccbjgajmjcpjab
open Go.RowKit

theorem cl_le (ts : List (List Int)) : ∀ (f : Nat) (p : List Int), (cl ts f p).2 ≤ f
  | 0, p => Nat.le_refl _
  | f + 1, p => by
    rw [cl]
    split
    · exact Nat.zero_le _
    · have := cl_le ts f (rz p (st ts p)); show (cl ts f (rz p (st ts p))).2 + 1 ≤ f + 1; omega
theorem lwP_zero : Lw [0, 0, 0] := ⟨rfl, fun k hk => by rcases nat3 hk with rfl | rfl | rfl <;> decide⟩
theorem clb_le {ts : List (List Int)} (hv : ∀ t ∈ ts, VT t) (h4 : ts.length ≤ 4) : (clb ts [0, 0, 0]).2 ≤ 120 := by
  have h1 := cl_le ts (lo ts [0, 0, 0]).toNat [0, 0, 0]
  have h2 := (suS_bd (ts := ts) hv lwP_zero.vp).2
  have h3 : lo ts [0, 0, 0] = pr [0, 0, 0] 7 + suS ts [0, 0, 0] := rfl
  have h5 : pr [0, 0, 0] 7 = 0 := by simp [pr, prTo, T]
  have h6 : (clb ts [0, 0, 0]).2 = (cl ts (lo ts [0, 0, 0]).toNat [0, 0, 0]).2 := rfl
  omega
/-- Where the climb ends. -/
noncomputable def cpL (ts : List (List Int)) : List Int := @ite _ (VTs ts) (Classical.propDecidable _) (clb ts [0, 0, 0]).1 []
noncomputable def cpS (ts : List (List Int)) : Int := @ite _ (VTs ts) (Classical.propDecidable _) (((clb ts [0, 0, 0]).2 : Nat) : Int) (-1)
theorem cpL_no {ts : List (List Int)} (h : vtsB ts = false) : cpL ts = [] := if_neg (fun hv => by rw [vtsB_true hv] at h; cases h)
theorem cpS_no {ts : List (List Int)} (h : vtsB ts = false) : cpS ts = -1 := if_neg (fun hv => by rw [vtsB_true hv] at h; cases h)
theorem cpL_yes {ts : List (List Int)} (h : VTs ts) : cpL ts = (clb ts [0, 0, 0]).1 := if_pos h
theorem cpS_yes {ts : List (List Int)} (h : VTs ts) : cpS ts = (((clb ts [0, 0, 0]).2 : Nat) : Int) := if_pos h
/-- The climb from q, after k steps, ends where it does. -/
def OnWay (ts : List (List Int)) (q : List Int) (k : Nat) : Prop := Lw q ∧ (clb ts q).1 = (clb ts [0, 0, 0]).1 ∧ (clb ts q).2 + k = (clb ts [0, 0, 0]).2
theorem OnWay.start (ts : List (List Int)) : OnWay ts [0, 0, 0] 0 := ⟨lwP_zero, rfl, rfl⟩
theorem OnWay.next {ts : List (List Int)} {q : List Int} {k : Nat} (hv : ∀ t ∈ ts, VT t) (h : OnWay ts q k) (hs : st ts q ≠ 0) : OnWay ts (rz q (st ts q)) (k + 1) ∧ k + 1 ≤ (clb ts [0, 0, 0]).2 := by
  obtain ⟨h1, h2, h3⟩ := h
  have h4 := clb_step hv h1 hs
  rw [h4] at h2 h3
  have h5 : (clb ts (rz q (st ts q))).2 + 1 + k = (clb ts [0, 0, 0]).2 := h3
  exact ⟨⟨st_low hv h1, h2, by omega⟩, by omega⟩
theorem OnWay.last {ts : List (List Int)} {q : List Int} {k : Nat} (h : OnWay ts q k) (hs : st ts q = 0) : q = (clb ts [0, 0, 0]).1 ∧ k = (clb ts [0, 0, 0]).2 := by
  obtain ⟨_, h2, h3⟩ := h
  rw [clb_end hs] at h2 h3
  have h5 : 0 + k = (clb ts [0, 0, 0]).2 := h3
  exact ⟨h2, by omega⟩
theorem cpL_len (ts : List (List Int)) : (cpL ts).length ≤ 3 := by
  by_cases hv : VTs ts
  · rw [cpL_yes hv]
    suffices h : ∀ f p, p.length = 3 → (cl ts f p).1.length = 3 by
      have := h (lo ts [0, 0, 0]).toNat [0, 0, 0] rfl
      unfold clb; omega
    intro f
    induction f with
    | zero => intro p hp; exact hp
    | succ f ih =>
      intro p hp
      rw [cl]
      split
      · exact hp
      · exact ih _ rfl
  · rw [show cpL ts = [] from if_neg hv]; simp

/-- What ClimbPrices hands back. -/
def ClIs (w : World) (ts : List (List Int)) (e : Ending) (w' : World) : Prop :=
  ∃ A c, e = .returned (.tuple #[.slice A (cpL ts).length c, .int .i64 (cpS ts)]) ∧ Own w' w.heap.size A c (cpL ts) ∧ Below w.heap.size w w'

set_option maxRecDepth 100000 in
set_option maxHeartbeats 2000000 in
theorem SClimbPrices_any (A : Option Addr) (c : Nat) (ts : List (List Int)) (w : World) (h : RdR w A c ts) (hl : ts.length ≤ 1099511627776) (hl2 : ∀ r ∈ ts, r.length ≤ 1099511627776) :
    Calls Try.prog 43 #[.slice A ts.length c] w (ClIs w ts) := by
  have HV := Lib.hid (SvalidTables_any A c ts w h hl hl2)
  rcases hv : vtsB ts with _ | _
  · have HE1 := Lib.hid (cpL_no hv)
    have HE2 := Lib.hid (cpS_no hv)
    rw [hv] at HV
    clear hv
    go_enter Try.func43, Try.ntmps43
    go_wp2_with fail
    refine HV.out.mono ?_
    rintro e w1 ⟨rfl, n, rfl⟩
    go_wp2
    go_ret2
    exact ⟨none, 0, by rw [HE1.out, HE2.out]; rfl, by rw [HE1.out]; exact own_none _ _, below_drewN' (Below.refl _ _) n⟩
  · have hvt := vtsB_iff.1 hv
    have HE1 := Lib.hid (cpL_yes hvt)
    have HE2 := Lib.hid (cpS_yes hvt)
    have hN := clb_le hvt.2 hvt.1.2
    have HNX := Lib.hid (fun (q : List Int) (k : Nat) (hw : OnWay ts q k) (hs : st ts q ≠ 0) => hw.next hvt.2 hs)
    have HSS := Lib.hid (fun W (h : RdR W A c ts) (B : Option Addr) (d : Nat) (q : List Int) (g : Rd W B d q) (hq : Lw q) => Ssteepest_any A B c d ts.length ts q W h g hvt.2 rfl hvt.1.2 hq)
    rw [hv] at HV
    obtain ⟨n, hn⟩ : ∃ n, n = ts.length := ⟨_, rfl⟩
    rw [← hn] at HV HSS ⊢
    obtain ⟨N, hNN⟩ : ∃ N, N = (clb ts [0, 0, 0]).2 := ⟨_, rfl⟩
    have HNN := Lib.hid hNN
    rw [← hNN] at hN
    clear hv hvt hn hNN
    go_enter Try.func43, Try.ntmps43
    go_wp2_with fail
    refine HV.out.mono ?_
    rintro e w1 ⟨rfl, n1, rfl⟩
    have hr1 := h.drewN n1
    have b0 := below_drewN' (Below.refl w.heap.size w) n1
    obtain ⟨w1, hw1⟩ : ∃ w1, w1 = w.drewN n1 := ⟨_, rfl⟩
    have hsw : w.heap.size = w1.heap.size := by rw [hw1]; rfl
    rw [← hw1] at hr1 b0 ⊢
    clear hw1
    go_wp2_with (at_make; refine wpList_make_ints rfl _ _ rfl w1.heap.size 3 rfl rfl (by omega) (Nat.le_refl _) ?_; intro w2 o2 b2)
    have hr2 := h.below (b0.trans (b2.mono b0.size))
    have B2 := b0.trans (b2.mono b0.size)
    have O2 : Own w2 w.heap.size (some ⟨w1.heap.size, 0, none⟩) 3 [0, 0, 0] := o2.base b0.size
    have HS2 := Lib.hid (HSS.out w2 hr2 (some ⟨w1.heap.size, 0, none⟩) 3 [0, 0, 0] O2.rd lwP_zero)
    have HO2 := Lib.hid O2
    clear o2 b2 b0 hr1 hsw O2 hr2
    refine HS2.out.mono ?_
    rintro e w3 ⟨rfl, b3⟩
    have HO3 := Lib.hid (HO2.out.below b3)
    have B3 := B2.trans (b3.mono B2.size)
    clear HO2 HS2 b3 B2
    go_wp2_with fail
    go_loopw [4, 5, 6] (fun pv nv sv wr => ∃ (q : List Int) (k : Nat) (C : Option Addr) (d : Nat), pv = .slice C 3 d ∧ nv = .int .i64 (k : Int) ∧ sv = .int .i64 ((st ts q : Nat) : Int) ∧ k ≤ N ∧ Hid (OnWay ts q k) ∧ Hid (Own wr w.heap.size C d q) ∧ Below w.heap.size w wr) (fun _ nv sv _ => (N + 1 - (intOf nv).toNat))
    case atStart => exact ⟨[0, 0, 0], 0, _, _, rfl, rfl, rfl, by omega, Lib.hid (OnWay.start ts), HO3, B3⟩
    case round =>
      clear HO3 B3
      obtain ⟨q, k, C, d, rfl, rfl, rfl, hk, HW, HO, hb⟩ := hrel
      by_cases hs : st ts q = 0
      · have hz := HW.out.last hs
        have HE3 : Hid (cpL ts = q) := Lib.hid (by rw [HE1.out]; exact hz.1.symm)
        have HE4 : Hid (cpS ts = (k : Int)) := Lib.hid (by rw [HE2.out, hz.2])
        have H3 := Lib.hid HW.out.1.1
        rw [hs]
        clear hz hs
        go_wp2
        go_ret2
        exact ⟨C, d, by rw [HE3.out, HE4.out, H3.out]; rfl, by rw [HE3.out]; exact HO.out, hb⟩
      · have hnx := HNX.out q k HW.out hs
        rw [← HNN.out] at hnx
        have HW1 := Lib.hid hnx.1
        have hk1 : k + 1 ≤ N := hnx.2
        have hs8 := st_lt ts q
        have HRA := Lib.hid (Sraised3_any C d (st ts q) q wr HO.out.rd HW.out.1.vp hs8)
        have hsz := hb.size
        obtain ⟨s, hS⟩ : ∃ s, s = st ts q := ⟨_, rfl⟩
        rw [← hS] at hs HW1 HRA ⊢
        have hs0 : (0 : Int) < (s : Int) := by omega
        clear hnx hS hs8 hs
        go_wp2_with fail
        refine HRA.out.mono ?_
        rintro e w4 ⟨C4, d4, rfl, o4, b4⟩
        have B4 := hb.trans (b4.mono hsz)
        have HO4 := Lib.hid (o4.base hsz)
        have HS4 := Lib.hid (HSS.out w4 (h.below B4) C4 d4 (rz q s) o4.rd HW1.out.1)
        rw [rz_len]
        clear o4 b4 HRA HO
        go_wp2_with fail
        refine HS4.out.mono ?_
        rintro e w5 ⟨rfl, b5⟩
        have HO5 := Lib.hid (HO4.out.below b5)
        have B5 := B4.trans (b5.mono B4.size)
        clear HO4 HS4 b5
        go_wp2
        go_roundw
        case rel => exact ⟨rz q s, k + 1, C4, d4, rfl, by go_num, rfl, hk1, HW1, HO5, B5⟩
        case measure => simp [intOf]; omega

end Go.Proofs.Ytccbjgajmjcpjab

/-
  The laws of chapter 7: tables and prices drawn.
-/
namespace Go.Proofs.Ytccbjgajmjcpjab
open Go.RowKit Go.Lib

/-- What is drawn: tables and prices. -/
def DrawnTsP (w : World) (e : Ending) (w' : World) : Prop :=
  ∃ (A : Option Addr) (c : Nat) (rows : List (List Int)) (B : Option Addr) (d : Nat) (p : List Int), e = .returned (.tuple #[.slice A rows.length c, .slice B p.length d]) ∧ RdR w' A c rows ∧ Rd w' B d p ∧ rows.length ≤ 4 ∧ (∀ r ∈ rows, r.length ≤ 8) ∧ p.length ≤ 3 ∧ Below w.heap.size w w'

theorem RowsU.rdr_at {w : World} {B c : Nat} {A : Option Addr} {ps : List (Nat × Nat × List Int)} {rows : List (List Int)} (h : RowsU w B (.slice A rows.length c) ps) (hr : ps.map (·.2.2) = rows) : RdR w A c rows := by
  obtain ⟨A', c', he, hR⟩ := h.rdr hr
  injection he with h1 _ h3
  subst h1 h3
  exact hR

set_option maxHeartbeats 4000000 in
set_option maxRecDepth 100000 in
theorem DrawIsClear_any (A : Option Addr) (c : Nat) (xs : List Int) (w : World) (h : Came .u8 w A c xs) :
    Calls Try.prog 24 #[.slice A xs.length c] w (DrawnTsP w) := by
  go_enter Try.func24, Try.ntmps24
  go_wp2_with fail
  refine (newReader_any A c xs w h).mono ?_
  rintro e w1 ⟨rb, rfl, hrb, hr1, hb1⟩
  go_wp2_with fail
  refine (easyTables_any rb 0 w1 hr1 (by decide)).mono ?_
  rintro e w2 ⟨v, ps, rfl, R2, hp4, hp8, hr2, hg2⟩
  have hl1 := hr1.lt
  have B2 := hb1.trans (gb_below hg2 hb1.size hrb)
  clear hg2
  go_wp2_with fail
  refine (pick_any rb (0 + 170) 2 w2 hr2 (by decide) (by decide) (by decide)).mono ?_
  rintro e w3 ⟨m, rfl, _, _, hr3, hg3⟩
  have R3 := R2.ask hg3 hl1
  have B3 := B2.trans (gb_below hg3 B2.size hrb)
  clear hg3 R2 hr2 B2
  by_cases hm : m = 0
  · have hmb : (m == 0) = true := by simpa using hm
    clear hm
    go_wp2_with fail
    refine (someTables_any rb (0 + 170 + 1) w3 hr3 (by decide)).mono ?_
    rintro e w4 ⟨v4, ps4, rfl, R4, hq4, hq8, hr4, hg4⟩
    have B4 := B3.trans (gb_below hg4 B3.size hrb)
    have hs3 := B3.size
    have hl4 : rb < w3.heap.size := hr3.lt
    clear hg4 B3 R3 hr3 hp4 hp8 hmb
    go_wp2_with fail
    refine (somePrices_any rb (0 + 170 + 1 + 170) w4 hr4 (by decide)).mono ?_
    rintro e w5 ⟨g3, off, c3, p, rfl, hp, _, r5, _, hg3, hg3', hr5, hgg5⟩
    have R5 := R4.ask hgg5 hl4
    have B5 := B4.trans (gb_below hgg5 B4.size hrb)
    have hpl : p.length ≤ 3 := by omega
    have hl44 := hr4.lt
    have hne : g3 ≠ rb := by omega
    clear hgg5 R4 hr4 B4 hp
    go_wp2_with fail
    refine (pick_any rb ((0 + 170 + 1 + 170) + 6) 2 w5 hr5 (by decide) (by decide) (by decide)).mono ?_
    rintro e w6 ⟨m6, rfl, _, _, hr6, hg6⟩
    have R6 := R5.ask hg6 hl4
    have B6 := B5.trans (gb_below hg6 B5.size hrb)
    have r6 : Rd w6 (some ⟨g3, off, none⟩) c3 p := r5.keepb (hg6.block g3 hg3' (fun e => hne (Option.some.inj e)))
    clear hg6 R5 hr5 B5 r5
    have H8 := Lib.hid (eight_map hq4 hq8)
    obtain ⟨rows, hrows⟩ : ∃ rows, rows = ps4.map (·.2.2) := ⟨_, rfl⟩
    obtain ⟨A2, c2, rfl, hR⟩ := R6.rdr hrows.symm
    rw [← hrows] at H8
    have hl4r := H8.out.1
    have hl8' : ∀ r ∈ rows, r.length ≤ 1099511627776 := fun r hr => by have := H8.out.2 r hr; omega
    have HRW := Lib.hid hrows.symm
    have HR6 := Lib.hid R6
    clear hrows R6 hq4 hq8
    by_cases h6 : m6 = 0
    · have hmb6 : (m6 == 0) = true := by simpa using h6
      have HV := Lib.hid (SvalidTables_any A2 c2 rows w6 hR (by omega) hl8')
      rcases hv : vtsB rows with _ | _
      · rw [hv] at HV
        clear h6 hv
        go_wp2_with fail
        refine HV.out.mono ?_
        rintro e w7 ⟨rfl, n7, rfl⟩
        go_wp2
        go_ret2
        exact ⟨A2, c2, rows, _, _, p, rfl, hR.drewN n7, r6.drewN n7, hl4r, H8.out.2, hpl, below_drewN' B6 n7⟩
      · rw [hv] at HV
        have HC := Lib.hid (fun W (hW : RdR W A2 c2 rows) => SClimbPrices_any A2 c2 rows W hW (by omega) hl8')
        have HM := Lib.hid (fun W (hW : RdR W A2 c2 rows) => SMostPrices_any A2 c2 rows W hW (by omega) hl8')
        clear h6 hv
        go_wp2_with fail
        refine HV.out.mono ?_
        rintro e w7 ⟨rfl, n7, rfl⟩
        have hR7 := hR.drewN n7
        have B7 := below_drewN' B6 n7
        have hr7 := hr6.below (below_drewN' (Below.refl _ _) n7)
        have HR7 := Lib.hid (HR6.out.below (below_drewN' (Below.refl _ _) n7))
        have hl7 : rb < w6.heap.size := hr6.lt
        clear r6 HV B6 hR hr6 HR6
        go_wp2_with fail
        refine (HC.out _ hR7).mono ?_
        rintro e w8 ⟨A8, c8, rfl, o8, b8⟩
        have hR8 := hR7.below b8
        have hr8 := hr7.below b8
        have B8 := B7.trans (b8.mono B7.size)
        have hcl := cpL_len rows
        have HR8 := Lib.hid (HR7.out.below b8)
        clear b8 hR7 B7 HR7
        go_wp2_with fail
        refine (pick_any rb ((0 + 170 + 1 + 170) + 6 + 1) 3 w8 hr8 (by decide) (by decide) (by decide)).mono ?_
        rintro e w9 ⟨m9, rfl, _, _, hr9, hg9⟩
        have B9 := B8.trans (gb_below hg9 B8.size hrb)
        have hR9 := (HR8.out.ask hg9 hl4).rdr_at HRW.out
        have o9 := o8.kept_ (A2 := some ⟨rb, 0, none⟩) hg9 (.inr (fun e => by have h1 : w6.heap.size ≤ rb := (own_blk (k := rb) o8 e).1; omega))
        clear hg9 B8 hr8 hR8 o8 HR8
        by_cases h9 : m9 = 0
        · have hmb9 : (m9 == 0) = true := by simpa using h9
          clear h9
          go_wp2_with fail
          refine (HM.out _ hR9).mono ?_
          rintro e w10 ⟨A10, c10, rfl, o10, b10⟩
          go_wp2
          go_ret2
          exact ⟨A2, c2, rows, A10, c10, mpL rows, rfl, hR9.below b10, o10.rd, hl4r, H8.out.2, mpL_len rows, B9.trans (b10.mono B9.size)⟩
        · have hmb9 : (m9 == 0) = false := by simpa using h9
          clear h9
          go_wp2
          go_ret2
          exact ⟨A2, c2, rows, A8, c8, cpL rows, rfl, hR9, o9.rd, hl4r, H8.out.2, hcl, B9⟩
    · have hmb6 : (m6 == 0) = false := by simpa using h6
      clear h6
      go_wp2
      go_ret2
      exact ⟨A2, c2, rows, _, _, p, rfl, hR, r6, hl4r, H8.out.2, hpl, B6⟩
  · have hmb : (m == 0) = false := by simpa using hm
    clear hm
    obtain ⟨w4, hw4⟩ : ∃ w4, w4 = w3 := ⟨_, rfl⟩
    obtain ⟨ps4, hps⟩ : ∃ ps4, ps4 = ps := ⟨_, rfl⟩
    have R4 := R3
    have hr4 := hr3
    have B4 := B3
    have hq4 := hp4
    have hq8 := hp8
    have hl4 := hl1
    rw [← hps] at R4 hq4 hq8
    rw [← hw4] at R4 hr4 B4 ⊢
    clear R3 hr3 B3 hp4 hp8 hps hw4
    go_wp2_with fail
    refine (somePrices_any rb (0 + 170 + 1) w4 hr4 (by decide)).mono ?_
    rintro e w5 ⟨g3, off, c3, p, rfl, hp, _, r5, _, hg3, hg3', hr5, hgg5⟩
    have R5 := R4.ask hgg5 hl4
    have B5 := B4.trans (gb_below hgg5 B4.size hrb)
    have hpl : p.length ≤ 3 := by omega
    have hl44 := hr4.lt
    have hne : g3 ≠ rb := by omega
    clear hgg5 R4 hr4 B4 hp
    go_wp2_with fail
    refine (pick_any rb ((0 + 170 + 1) + 6) 2 w5 hr5 (by decide) (by decide) (by decide)).mono ?_
    rintro e w6 ⟨m6, rfl, _, _, hr6, hg6⟩
    have R6 := R5.ask hg6 hl4
    have B6 := B5.trans (gb_below hg6 B5.size hrb)
    have r6 : Rd w6 (some ⟨g3, off, none⟩) c3 p := r5.keepb (hg6.block g3 hg3' (fun e => hne (Option.some.inj e)))
    clear hg6 R5 hr5 B5 r5
    have H8 := Lib.hid (eight_map hq4 hq8)
    obtain ⟨rows, hrows⟩ : ∃ rows, rows = ps4.map (·.2.2) := ⟨_, rfl⟩
    obtain ⟨A2, c2, rfl, hR⟩ := R6.rdr hrows.symm
    rw [← hrows] at H8
    have hl4r := H8.out.1
    have hl8' : ∀ r ∈ rows, r.length ≤ 1099511627776 := fun r hr => by have := H8.out.2 r hr; omega
    have HRW := Lib.hid hrows.symm
    have HR6 := Lib.hid R6
    clear hrows R6 hq4 hq8
    by_cases h6 : m6 = 0
    · have hmb6 : (m6 == 0) = true := by simpa using h6
      have HV := Lib.hid (SvalidTables_any A2 c2 rows w6 hR (by omega) hl8')
      rcases hv : vtsB rows with _ | _
      · rw [hv] at HV
        clear h6 hv
        go_wp2_with fail
        refine HV.out.mono ?_
        rintro e w7 ⟨rfl, n7, rfl⟩
        go_wp2
        go_ret2
        exact ⟨A2, c2, rows, _, _, p, rfl, hR.drewN n7, r6.drewN n7, hl4r, H8.out.2, hpl, below_drewN' B6 n7⟩
      · rw [hv] at HV
        have HC := Lib.hid (fun W (hW : RdR W A2 c2 rows) => SClimbPrices_any A2 c2 rows W hW (by omega) hl8')
        have HM := Lib.hid (fun W (hW : RdR W A2 c2 rows) => SMostPrices_any A2 c2 rows W hW (by omega) hl8')
        clear h6 hv
        go_wp2_with fail
        refine HV.out.mono ?_
        rintro e w7 ⟨rfl, n7, rfl⟩
        have hR7 := hR.drewN n7
        have B7 := below_drewN' B6 n7
        have hr7 := hr6.below (below_drewN' (Below.refl _ _) n7)
        have HR7 := Lib.hid (HR6.out.below (below_drewN' (Below.refl _ _) n7))
        have hl7 : rb < w6.heap.size := hr6.lt
        clear r6 HV B6 hR hr6 HR6
        go_wp2_with fail
        refine (HC.out _ hR7).mono ?_
        rintro e w8 ⟨A8, c8, rfl, o8, b8⟩
        have hR8 := hR7.below b8
        have hr8 := hr7.below b8
        have B8 := B7.trans (b8.mono B7.size)
        have hcl := cpL_len rows
        have HR8 := Lib.hid (HR7.out.below b8)
        clear b8 hR7 B7 HR7
        go_wp2_with fail
        refine (pick_any rb ((0 + 170 + 1) + 6 + 1) 3 w8 hr8 (by decide) (by decide) (by decide)).mono ?_
        rintro e w9 ⟨m9, rfl, _, _, hr9, hg9⟩
        have B9 := B8.trans (gb_below hg9 B8.size hrb)
        have hR9 := (HR8.out.ask hg9 hl4).rdr_at HRW.out
        have o9 := o8.kept_ (A2 := some ⟨rb, 0, none⟩) hg9 (.inr (fun e => by have h1 : w6.heap.size ≤ rb := (own_blk (k := rb) o8 e).1; omega))
        clear hg9 B8 hr8 hR8 o8 HR8
        by_cases h9 : m9 = 0
        · have hmb9 : (m9 == 0) = true := by simpa using h9
          clear h9
          go_wp2_with fail
          refine (HM.out _ hR9).mono ?_
          rintro e w10 ⟨A10, c10, rfl, o10, b10⟩
          go_wp2
          go_ret2
          exact ⟨A2, c2, rows, A10, c10, mpL rows, rfl, hR9.below b10, o10.rd, hl4r, H8.out.2, mpL_len rows, B9.trans (b10.mono B9.size)⟩
        · have hmb9 : (m9 == 0) = false := by simpa using h9
          clear h9
          go_wp2
          go_ret2
          exact ⟨A2, c2, rows, A8, c8, cpL rows, rfl, hR9, o9.rd, hl4r, H8.out.2, hcl, B9⟩
    · have hmb6 : (m6 == 0) = false := by simpa using h6
      clear h6
      go_wp2
      go_ret2
      exact ⟨A2, c2, rows, _, _, p, rfl, hR, r6, hl4r, H8.out.2, hpl, B6⟩

end Go.Proofs.Ytccbjgajmjcpjab
