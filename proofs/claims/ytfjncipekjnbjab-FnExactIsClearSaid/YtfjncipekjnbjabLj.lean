/-
  Chapter 7: IsClear by the program, and both sides.
-/
import Derived.Test.YtfjncipekjnbjabLi
import Derived.Test.YtfjncipekjnbjabJm
import Derived.Test.YtfjncipekjnbjabUy
import Derived.Test.YtfjncipekjnbjabRw
import Derived.Test.YtfjncipekjnbjabWj
import Derived.Test.YtfjncipekjnbjabLg
namespace Go.Proofs.Ytfjncipekjnbjab
open Go.RowKit

theorem RowsU.moreC {w w1 : World} {B : Nat} {v v' : Value} {ps : List (Nat × Nat × List Int)} {p : Nat × Nat × List Int} {tmp : Obj} (h : RowsU w B v ps) (ho : Own w B (some ⟨p.1, 0, none⟩) p.2.1 p.2.2) (hn : p.1 ∉ ps.map (·.1))
    (hown : w1.ownsRow B 28 1 v' (ps.length + 1) (ps.map slU ++ [slU p])) (hg : (w.alloc tmp).grownBy w1 v.ownBlock) : RowsU w1 B v' (ps ++ [p]) := by
  have hk : ∀ q : Nat × Nat × List Int, Own w B (some ⟨q.1, 0, none⟩) q.2.1 q.2.2 → Own w1 B (some ⟨q.1, 0, none⟩) q.2.1 q.2.2 := by
    intro q hq
    have h1 := World.ownsRow.kept (show (w.alloc tmp).ownsRow B 3 1 _ _ _ from hq.below ((Below.refl _ w).alloc (Nat.le_refl _) tmp)) hg (.inr (by
      have := rowU_apart h.row hq
      simp only [Value.ownBlock]
      exact fun e => this e.symm))
    exact h1
  refine ⟨by simpa using hown, ?_, ?_⟩
  · intro q hq
    rcases List.mem_append.1 hq with hq | hq
    · exact hk q (h.each q hq)
    · obtain rfl : q = p := by simpa using hq
      exact hk q ho
  · rw [List.map_append, List.nodup_append]
    refine ⟨h.nodup, by simp, ?_⟩
    intro a ha b hb hab
    simp at hb
    subst hb hab
    exact hn ha
theorem RowsU.notInC {w w0 : World} {B B' g c : Nat} {v : Value} {zs : List Int} {ps : List (Nat × Nat × List Int)} (h : RowsU w0 B v ps) (hs : w0.heap.size ≤ B') (ho : Own w B' (some ⟨g, 0, none⟩) c zs) : g ∉ ps.map (·.1) := by
  intro hg
  obtain ⟨p, hp, rfl⟩ := List.mem_map.1 hg
  have h1 := (h.each p hp).lt
  have h2 := ho.ge
  omega
theorem dmB_yes {t p : List Int} (hv : VT t) (hp : VP p) : dmB t p = dm t p := by unfold dmB; rw [vt_iff.2 hv, vp_iff.2 hp]; rfl
theorem RowsU.grownBelow {w w' wa wt : World} {B0 B : Nat} {v : Value} {ps : List (Nat × Nat × List Int)} (hb : Below B0 wa wt) (h : RowsU w B v ps) (hB : B0 ≤ B) (hs : B0 ≤ wt.heap.size) (hg : wt.grownBy w' v.ownBlock) : Below B0 wa w' :=
  hb.grown hg hs (fun k hk => Nat.le_trans hB (World.ownsRow.lt h.row k hk).1)
theorem icB_eq {ts : List (List Int)} {p : List Int} (hv : VTs ts) (hp : VP p) : svA (ts.map (fun t => dm t p)) 7 (sm p [0, 0, 0]) = icB ts p := by
  rw [Bool.eq_iff_iff, served hv hp, icB_iff]
theorem sameIn0_any (p : List Int) (w : World) :
    Calls Try.prog 79 #[.agg #[.int .i64 (T p 0), .int .i64 (T p 1), .int .i64 (T p 2)], .agg #[.int .i64 0, .int .i64 0, .int .i64 0]] w fun e w' => e = .returned (.int .i64 ((sm p [0, 0, 0] : Nat) : Int)) ∧ Below w.heap.size w w' := sameIn_any p [0, 0, 0] w

set_option maxRecDepth 100000 in
set_option maxHeartbeats 2000000 in
theorem IsClear_any (A B : Option Addr) (c d : Nat) (ts : List (List Int)) (p : List Int) (w : World) (h : RdR w A c ts) (g : Rd w B d p) (hl2 : ∀ r ∈ ts, r.length ≤ 1099511627776) :
    Calls Try.prog 22 #[.slice A ts.length c, .slice B p.length d] w fun e w' => e = .returned (.bool (isB ts p)) ∧ Below w.heap.size w w' := by
  have HV := Lib.hid (areTables_any A c ts w h hl2)
  have HQ := Lib.hid (fun w1 (g : Rd w1 B d p) => arePrices_any B d p w1 g)
  rcases hv : vtsB ts with _ | _
  · have HE : Hid (isB ts p = false) := Lib.hid (by unfold isB; rw [hv]; rfl)
    rw [hv] at HV
    clear hv
    go_enter Try.func22, Try.ntmps22
    go_wp2_with fail
    refine HV.out.mono ?_
    rintro e w1 ⟨rfl, b1⟩
    go_wp2
    go_ret
    exact ⟨by rw [HE.out]; rfl, b1⟩
  rcases hp : vp p with _ | _
  · have HE : Hid (isB ts p = false) := Lib.hid (by unfold isB; rw [hv, hp]; rfl)
    rw [hv] at HV
    rw [hp] at HQ
    clear hv hp
    go_enter Try.func22, Try.ntmps22
    go_wp2_with fail
    refine HV.out.mono ?_
    rintro e w1 ⟨rfl, b1⟩
    go_wp2_with fail
    refine (HQ.out _ (g.below b1)).mono ?_
    rintro e w2 ⟨rfl, rfl⟩
    go_wp2
    go_ret
    exact ⟨by rw [HE.out]; rfl, b1⟩
  · have HE : Hid (isB ts p = icB ts p) := Lib.hid (by unfold isB; rw [hv, hp]; rfl)
    have hvt := vtsB_iff.1 hv
    have hvp := vp_iff.1 hp
    have HIC := Lib.hid (icB_eq hvt hvp)
    have HVT := Lib.hid hvt.2
    have h4 := hvt.1.2
    have h1n := hvt.1.1
    have h3 := hvp.1
    have HDM := Lib.hid (fun (t : List Int) (ht : t ∈ ts) => dmB_yes (hvt.2 t ht) hvp)
    have HD := Lib.hid (fun (A : Option Addr) (c : Nat) (t : List Int) w1 (ht : VT t) (h : Rd w1 A c t) (g : Rd w1 B d p) => DemandAt_any A B c d t p w1 h g (by rw [ht.1]; omega))
    have HSI := Lib.hid (sameIn0_any p)
    have HSA := Lib.hid (fun A c w1 (h : RdR w1 A c (ts.map (fun t => dm t p))) => servesAll_any (ts.map (fun t => dm t p)) A c 7 (sm p [0, 0, 0]) w1 h (by
      intro u hu
      obtain ⟨t, _, rfl⟩ := List.mem_map.1 hu
      exact ⟨dm_len t p, fun x hx => by obtain ⟨s, e1, e2, _⟩ := dm_mem.1 hx; exact ⟨s, e1, e2⟩⟩) (by rw [List.length_map]; omega) (by omega) (sm_lt _ _))
    rw [List.length_map] at HSA
    obtain ⟨b2, off2, rfl⟩ := g.some3 h3
    have hap3 := arr3_ptr b2 off2 d
    obtain ⟨n, hn⟩ : ∃ n, n = ts.length := ⟨_, rfl⟩
    have HN := Lib.hid hn
    rw [hv, ← hn] at HV
    rw [hp] at HQ
    rw [h3] at HQ HD
    rw [← hn] at HSA h4 h1n
    rw [h3, ← hn]
    clear hv hp hvt hvp hn
    obtain ⟨i0, hi, hz0, hz1, hz2⟩ := info_parts intsU_info
    go_enter Try.func22, Try.ntmps22
    go_wp2_with fail
    refine HV.out.mono ?_
    rintro e w1 ⟨rfl, b1⟩
    go_wp2_with fail
    refine (HQ.out _ (g.below b1)).mono ?_
    rintro e w2 ⟨rfl, rfl⟩
    have hr1 := h.below b1
    have hg1 := g.below b1
    have OU0 : Hid (RowsU w1 w1.heap.size (.slice none 0 0) []) := Lib.hid (RowsU.nil _ _)
    go_wp2_with fail
    go_loopw [5, 19] (fun v iv wr => ∃ (k : Nat) (ps : List (Nat × Nat × List Int)), k ≤ n ∧ iv = .int .i64 (k : Int) ∧ Hid (ps.length = k) ∧ Hid (RowsU wr w1.heap.size v ps) ∧ Hid (ps.map (·.2.2) = (ts.map (fun t => dm t p)).take k) ∧ Below w1.heap.size w1 wr) (fun _ iv _ => n - (intOf iv).toNat)
    case atStart => exact ⟨0, [], by omega, rfl, Lib.hid rfl, OU0, Lib.hid rfl, Below.refl _ _⟩
    case round =>
      clear OU0
      obtain ⟨k, ps, hk, rfl, HL, HR, HM, hb⟩ := hrel
      by_cases hlt : k < n
      · obtain ⟨b, off, t, A', c', rfl, ht, hc, hcap, hrd⟩ := (hr1.below hb).at_ (k := k) (by rw [← HN.out]; exact hlt)
        have hmt := List.mem_of_getElem? ht.out
        have hvt := HVT.out t hmt
        have HDe := Lib.hid (HDM.out t hmt)
        have HMN : Hid ((ts.map (fun t => dm t p)).take (k + 1) = (ts.map (fun t => dm t p)).take k ++ [dm t p]) := Lib.hid (by rw [List.take_add_one, List.getElem?_map, ht.out]; rfl)
        have HDO := Lib.hid (HD.out A' c' t wr hvt hrd.out (hg1.below hb))
        rw [hvt.1] at hc HDO
        have hne : dm t p ≠ [] := dm_some hvt.2.1
        have hk1 : k + 1 ≤ n := hlt
        have hkn : (k : Int) < (n : Int) := by omega
        clear ht hmt hrd hcap hlt hvt
        go_wp2_with fail
        refine HDO.out.mono ?_
        rintro e w3 ⟨A3, c3, rfl, o3, b3⟩
        rw [HDe.out] at o3 ⊢
        obtain ⟨g3, rfl⟩ := own_some o3 (by have := List.length_pos_iff.2 hne; omega)
        have HR3 := Lib.hid (HR.out.below b3)
        have HNI := Lib.hid (HR.out.notInC (Nat.le_refl _) o3)
        have hsz := hb.size
        have HO3 := Lib.hid (o3.base hsz)
        have hb3 : Below w1.heap.size w1 w3 := hb.trans (b3.mono hsz)
        have HT := Lib.hid (own_len HR3.out.row ((Below.refl _ w3).alloc (Nat.le_refl _) (.cells #[.slice (some ⟨g3, 0, none⟩) (dm t p).length c3] 28)))
        have hB3 : Below w1.heap.size w1 (w3.alloc (.cells #[.slice (some ⟨g3, 0, none⟩) (dm t p).length c3] 28)) := hb3.alloc hb3.size _
        have hps4 : ps.length ≤ 4 := by have := HL.out; omega
        have hb63 : ps.length + 1 ≤ maxLen := by have := HL.out; unfold maxLen; omega
        have hSz : w1.heap.size ≤ w3.heap.size + 1 := by have := hb3.size; omega
        clear HDO o3 b3 HR
        go_wp2_with (at_builtin; (refine wpList_append_own _ rfl _ _ 23 rfl w1.heap.size 28 i0 (.slice none 0 0) 1 24 Try.underlying23 hi hz0 hz1 hz2 rfl (by decide) u5 ps.length (ps.map slU) rfl HT.out ⟨w3.heap.size, 0, none⟩ 1 1 [.slice (some ⟨g3, 0, none⟩) (dm t p).length c3] rfl rfl (cell_one_new _ _ _) (by simp [Value.oneCell']) hb63 (by omega) (by simpa using hSz) ?_; intro v5 w5 hown5 hg5 _))
        have R5 : RowsU w5 w1.heap.size v5 (ps ++ [(g3, c3, dm t p)]) := HR3.out.moreC (p := (g3, c3, dm t p)) HO3.out HNI.out hown5 hg5
        have hb5 : Below w1.heap.size w1 w5 := RowsU.grownBelow hB3 HR3.out (Nat.le_refl _) (by simpa using hSz) hg5
        have HR5 := Lib.hid R5
        have HL5 : Hid ((ps ++ [(g3, c3, dm t p)]).length = k + 1) := Lib.hid (by rw [List.length_append, HL.out]; rfl)
        have HM5 : Hid ((ps ++ [(g3, c3, dm t p)]).map (·.2.2) = (ts.map (fun t => dm t p)).take (k + 1)) := Lib.hid (by rw [List.map_append, HM.out, HMN.out]; rfl)
        clear hown5 hg5 HT R5
        go_roundw
        case rel => exact ⟨k + 1, ps ++ [(g3, c3, dm t p)], hk1, by go_num, HL5, HR5, HM5, hb5⟩
        case measure => simp [intOf]; omega
      · obtain rfl : k = n := by omega
        have hM : ps.map (·.2.2) = ts.map (fun t => dm t p) := by rw [HM.out, List.take_of_length_le (by rw [List.length_map, ← HN.out]; omega)]
        obtain ⟨A5, c5, rfl, hr5⟩ := HR.out.rdr hM
        rw [List.length_map, ← HN.out]
        have HR5 := Lib.hid hr5
        obtain ⟨g0, g1, g2⟩ := (hg1.below hb).three h3
        clear hr5 hM HR HM
        go_wp2_with fail
        refine (HSI.out _).mono ?_
        rintro e w6 ⟨rfl, b6⟩
        have hr6 := HR5.out.below b6
        go_wp2_with fail
        refine (HSA.out A5 c5 _ hr6).mono ?_
        rintro e w7 ⟨rfl, q, rfl⟩
        have hB := below_drewN' (hb.trans (b6.mono hb.size)) q
        go_wp2
        go_ret
        exact ⟨by rw [HE.out, ← HIC.out]; rfl, below_then b1 hB⟩

theorem IsClear_both (rows : List (List Int)) (told : List Int) : ∃ (v : Bool), (rows.length ≤ 1099511627776 → (∀ r ∈ rows, r.length ≤ 1099511627776) → told.length ≤ 1099511627776 →
    (∀ A T c d w, RdR w A c rows → Rd w T d told → told.length ≤ d → Calls Try.prog 52 #[.slice A rows.length c, .slice T told.length d] w fun e w' => e = .returned (.bool v) ∧ Below w.heap.size w w') ∧
    (∀ A T c d w, RdR w A c rows → Rd w T d told → told.length ≤ d → Calls Try.prog 22 #[.slice A rows.length c, .slice T told.length d] w fun e w' => e = .returned (.bool v) ∧ Below w.heap.size w w')) :=
  ⟨isB rows told, fun hl hl2 hl3 => ⟨fun A T c d w h1 h2 _ => SIsClear_any A T c d rows told w h1 h2 hl hl2 hl3,
    fun A T c d w h1 h2 _ => IsClear_any A T c d rows told w h1 h2 hl2⟩⟩

end Go.Proofs.Ytfjncipekjnbjab
