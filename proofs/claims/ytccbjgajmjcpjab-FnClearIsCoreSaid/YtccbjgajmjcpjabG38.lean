/-
  Chapter 7: IsClear by the program, and both sides.
-/
import Derived.Test.YtccbjgajmjcpjabG37
import Derived.Test.YtccbjgajmjcpjabG33
import Derived.Test.YtccbjgajmjcpjabG24
import Derived.Test.YtccbjgajmjcpjabG10
import Derived.Test.YtccbjgajmjcpjabG07
import Derived.Test.YtccbjgajmjcpjabG16
import Derived.Test.YtccbjgajmjcpjabG17
import Derived.Test.YtccbjgajmjcpjabG36
import Derived.Test.YtccbjgajmjcpjabG25
import Derived.Deep.RegionHeld3
namespace Go.Proofs.Ytccbjgajmjcpjab
open Go.RowKit

theorem RowsU.moreC {w w1 : World} {B : Nat} {v v' : Value} {ps : List (Nat × Nat × List Int)} {p : Nat × Nat × List Int} {tmp : Obj} (h : RowsU w B v ps) (ho : Own w B (some ⟨p.1, 0, none⟩) p.2.1 p.2.2) (hn : p.1 ∉ ps.map (·.1))
    (hown : w1.ownsRow B 26 1 v' (ps.length + 1) (ps.map slU ++ [slU p])) (hg : (w.alloc tmp).grownBy w1 v.ownBlock) : RowsU w1 B v' (ps ++ [p]) := by
  have hk : ∀ q : Nat × Nat × List Int, Own w B (some ⟨q.1, 0, none⟩) q.2.1 q.2.2 → Own w1 B (some ⟨q.1, 0, none⟩) q.2.1 q.2.2 := by
    intro q hq
    have h1 := World.ownsRow.kept (show (w.alloc tmp).ownsRow B 3 1 _ _ _ from hq.below ((Below.refl _ w).alloc (Nat.le_refl _) tmp)) hg (.inr (by
      have := rowU_apart h.row hq
      simp only [Value.ownBlock]
      exact fun e => this e.symm))
    exact h1
  refine ⟨by simpa using hown, ?_, ?_⟩
  · intro q hq
    rcases List.mem_append.1 hq with hq | hq
    · exact hk q (h.each q hq)
    · obtain rfl : q = p := by simpa using hq
      exact hk q ho
  · rw [List.map_append, List.nodup_append]
    refine ⟨h.nodup, by simp, ?_⟩
    intro a ha b hb hab
    simp at hb
    subst hb hab
    exact hn ha
theorem RowsU.notInC {w w0 : World} {B B' g c : Nat} {v : Value} {zs : List Int} {ps : List (Nat × Nat × List Int)} (h : RowsU w0 B v ps) (hs : w0.heap.size ≤ B') (ho : Own w B' (some ⟨g, 0, none⟩) c zs) : g ∉ ps.map (·.1) := by
  intro hg
  obtain ⟨p, hp, rfl⟩ := List.mem_map.1 hg
  have h1 := (h.each p hp).lt
  have h2 := ho.ge
  omega
theorem dmB_yesC {t p : List Int} (hv : VT t) (hp : VP p) : dmB t p = dm t p := by unfold dmB; rw [vt_iff.2 hv, vp_iff.2 hp]; rfl
theorem RowsU.grownBelow {w w' wa wt : World} {B0 B : Nat} {v : Value} {ps : List (Nat × Nat × List Int)} (hb : Below B0 wa wt) (h : RowsU w B v ps) (hB : B0 ≤ B) (hs : B0 ≤ wt.heap.size) (hg : wt.grownBy w' v.ownBlock) : Below B0 wa w' :=
  hb.grown hg hs (fun k hk => Nat.le_trans hB (World.ownsRow.lt h.row k hk).1)
theorem icB_eq {ts : List (List Int)} {p : List Int} (hv : VTs ts) (hp : VP p) : svA (ts.map (fun t => dm t p)) 7 (sm p [0, 0, 0]) = icB ts p := by
  rw [Bool.eq_iff_iff, served hv hp, icB_iff]
theorem sameIn0_any (p : List Int) (w : World) :
    Calls Try.prog 83 #[.agg #[.int .i64 (T p 0), .int .i64 (T p 1), .int .i64 (T p 2)], .agg #[.int .i64 0, .int .i64 0, .int .i64 0]] w fun e w' => e = .returned (.int .i64 ((sm p [0, 0, 0] : Nat) : Int)) ∧ Below w.heap.size w w' := sameIn_any p [0, 0, 0] w

set_option maxRecDepth 100000 in
set_option maxHeartbeats 2000000 in
theorem IsClear_any (A B : Option Addr) (c d : Nat) (ts : List (List Int)) (p : List Int) (w : World) (h : RdR w A c ts) (g : Rd w B d p) (hl2 : ∀ r ∈ ts, r.length ≤ 1099511627776) :
    Calls Try.prog 25 #[.slice A ts.length c, .slice B p.length d] w fun e w' => e = .returned (.bool (isB ts p)) ∧ Below w.heap.size w w' := by
  have HV := Lib.hid (areTables_any A c ts w h hl2)
  have HQ := Lib.hid (fun w1 (g : Rd w1 B d p) => arePrices_any B d p w1 g)
  rcases hv : vtsB ts with _ | _
  · have HE : Hid (isB ts p = false) := Lib.hid (by unfold isB; rw [hv]; rfl)
    rw [hv] at HV
    clear hv
    go_enter Try.func25, Try.ntmps25
    go_wp2_with fail
    refine HV.out.mono ?_
    rintro e w1 ⟨rfl, b1⟩
    go_wp2
    go_ret
    exact ⟨by rw [HE.out]; rfl, b1⟩
  rcases hp : vp p with _ | _
  · have HE : Hid (isB ts p = false) := Lib.hid (by unfold isB; rw [hv, hp]; rfl)
    rw [hv] at HV
    rw [hp] at HQ
    clear hv hp
    go_enter Try.func25, Try.ntmps25
    go_wp2_with fail
    refine HV.out.mono ?_
    rintro e w1 ⟨rfl, b1⟩
    go_wp2_with fail
    refine (HQ.out _ (g.below b1)).mono ?_
    rintro e w2 ⟨rfl, rfl⟩
    go_wp2
    go_ret
    exact ⟨by rw [HE.out]; rfl, b1⟩
  · have HE : Hid (isB ts p = icB ts p) := Lib.hid (by unfold isB; rw [hv, hp]; rfl)
    have hvt := vtsB_iff.1 hv
    have hvp := vp_iff.1 hp
    have HIC := Lib.hid (icB_eq hvt hvp)
    have HVT := Lib.hid hvt.2
    have h4 := hvt.1.2
    have h1n := hvt.1.1
    have h3 := hvp.1
    have HDM := Lib.hid (fun (t : List Int) (ht : t ∈ ts) => dmB_yesC (hvt.2 t ht) hvp)
    have HD := Lib.hid (fun (A : Option Addr) (c : Nat) (t : List Int) w1 (ht : VT t) (h : Rd w1 A c t) (g : Rd w1 B d p) => DemandAt_any A B c d t p w1 h g (by rw [ht.1]; omega))
    have HSI := Lib.hid (sameIn0_any p)
    have HSA := Lib.hid (fun A c w1 (h : RdR w1 A c (ts.map (fun t => dm t p))) => servesAll_any (ts.map (fun t => dm t p)) A c 7 (sm p [0, 0, 0]) w1 h (by
      intro u hu
      obtain ⟨t, _, rfl⟩ := List.mem_map.1 hu
      exact ⟨dm_len t p, fun x hx => by obtain ⟨s, e1, e2, _⟩ := dm_mem.1 hx; exact ⟨s, e1, e2⟩⟩) (by rw [List.length_map]; omega) (by omega) (sm_lt _ _))
    rw [List.length_map] at HSA
    obtain ⟨b2, off2, rfl⟩ := g.some3 h3
    have hap3 := arr3_ptr b2 off2 d
    obtain ⟨n, hn⟩ : ∃ n, n = ts.length := ⟨_, rfl⟩
    have HN := Lib.hid hn
    rw [hv, ← hn] at HV
    rw [hp] at HQ
    rw [h3] at HQ HD
    rw [← hn] at HSA h4 h1n
    rw [h3, ← hn]
    clear hv hp hvt hvp hn
    obtain ⟨i0, hi, hz0, hz1, hz2⟩ := info_parts intsU_info
    go_enter Try.func25, Try.ntmps25
    go_wp2_with fail
    refine HV.out.mono ?_
    rintro e w1 ⟨rfl, b1⟩
    go_wp2_with fail
    refine (HQ.out _ (g.below b1)).mono ?_
    rintro e w2 ⟨rfl, rfl⟩
    have hr1 := h.below b1
    have hg1 := g.below b1
    have OU0 : Hid (RowsU w1 w1.heap.size (.slice none 0 0) []) := Lib.hid (RowsU.nil _ _)
    go_wp2_with fail
    go_loopw [5, 19] (fun v iv wr => ∃ (k : Nat) (ps : List (Nat × Nat × List Int)), k ≤ n ∧ iv = .int .i64 (k : Int) ∧ Hid (ps.length = k) ∧ Hid (RowsU wr w1.heap.size v ps) ∧ Hid (ps.map (·.2.2) = (ts.map (fun t => dm t p)).take k) ∧ Below w1.heap.size w1 wr) (fun _ iv _ => n - (intOf iv).toNat)
    case atStart => exact ⟨0, [], by omega, rfl, Lib.hid rfl, OU0, Lib.hid rfl, Below.refl _ _⟩
    case round =>
      clear OU0
      obtain ⟨k, ps, hk, rfl, HL, HR, HM, hb⟩ := hrel
      by_cases hlt : k < n
      · obtain ⟨b, off, t, A', c', rfl, ht, hc, hcap, hrd⟩ := (hr1.below hb).at_ (k := k) (by rw [← HN.out]; exact hlt)
        have hmt := List.mem_of_getElem? ht.out
        have hvt := HVT.out t hmt
        have HDe := Lib.hid (HDM.out t hmt)
        have HMN : Hid ((ts.map (fun t => dm t p)).take (k + 1) = (ts.map (fun t => dm t p)).take k ++ [dm t p]) := Lib.hid (by rw [List.take_add_one, List.getElem?_map, ht.out]; rfl)
        have HDO := Lib.hid (HD.out A' c' t wr hvt hrd.out (hg1.below hb))
        rw [hvt.1] at hc HDO
        have hne : dm t p ≠ [] := dm_some hvt.2.1
        have hk1 : k + 1 ≤ n := hlt
        have hkn : (k : Int) < (n : Int) := by omega
        clear ht hmt hrd hcap hlt hvt
        go_wp2_with fail
        refine HDO.out.mono ?_
        rintro e w3 ⟨A3, c3, rfl, o3, b3⟩
        rw [HDe.out] at o3 ⊢
        obtain ⟨g3, rfl⟩ := own_some o3 (by have := List.length_pos_iff.2 hne; omega)
        have HR3 := Lib.hid (HR.out.below b3)
        have HNI := Lib.hid (HR.out.notInC (Nat.le_refl _) o3)
        have hsz := hb.size
        have HO3 := Lib.hid (o3.base hsz)
        have hb3 : Below w1.heap.size w1 w3 := hb.trans (b3.mono hsz)
        have HT := Lib.hid (own_len HR3.out.row ((Below.refl _ w3).alloc (Nat.le_refl _) (.cells #[.slice (some ⟨g3, 0, none⟩) (dm t p).length c3] 26)))
        have hB3 : Below w1.heap.size w1 (w3.alloc (.cells #[.slice (some ⟨g3, 0, none⟩) (dm t p).length c3] 26)) := hb3.alloc hb3.size _
        have hps4 : ps.length ≤ 4 := by have := HL.out; omega
        have hb63 : ps.length + 1 ≤ maxLen := by have := HL.out; unfold maxLen; omega
        have hSz : w1.heap.size ≤ w3.heap.size + 1 := by have := hb3.size; omega
        clear HDO o3 b3 HR
        go_wp2_with (at_builtin; (refine wpList_append_own _ rfl _ _ 23 rfl w1.heap.size 26 i0 (.slice none 0 0) 1 24 Try.underlying23 hi hz0 hz1 hz2 rfl (by decide) u5 ps.length (ps.map slU) rfl HT.out ⟨w3.heap.size, 0, none⟩ 1 1 [.slice (some ⟨g3, 0, none⟩) (dm t p).length c3] rfl rfl (cell_one_new _ _ _) (by simp [Value.oneCell']) hb63 (by omega) (by simpa using hSz) ?_; intro v5 w5 hown5 hg5 _))
        have R5 : RowsU w5 w1.heap.size v5 (ps ++ [(g3, c3, dm t p)]) := HR3.out.moreC (p := (g3, c3, dm t p)) HO3.out HNI.out hown5 hg5
        have hb5 : Below w1.heap.size w1 w5 := RowsU.grownBelow hB3 HR3.out (Nat.le_refl _) (by simpa using hSz) hg5
        have HR5 := Lib.hid R5
        have HL5 : Hid ((ps ++ [(g3, c3, dm t p)]).length = k + 1) := Lib.hid (by rw [List.length_append, HL.out]; rfl)
        have HM5 : Hid ((ps ++ [(g3, c3, dm t p)]).map (·.2.2) = (ts.map (fun t => dm t p)).take (k + 1)) := Lib.hid (by rw [List.map_append, HM.out, HMN.out]; rfl)
        clear hown5 hg5 HT R5
        go_roundw
        case rel => exact ⟨k + 1, ps ++ [(g3, c3, dm t p)], hk1, by go_num, HL5, HR5, HM5, hb5⟩
        case measure => simp [intOf]; omega
      · obtain rfl : k = n := by omega
        have hM : ps.map (·.2.2) = ts.map (fun t => dm t p) := by rw [HM.out, List.take_of_length_le (by rw [List.length_map, ← HN.out]; omega)]
        obtain ⟨A5, c5, rfl, hr5⟩ := HR.out.rdr hM
        rw [List.length_map, ← HN.out]
        have HR5 := Lib.hid hr5
        obtain ⟨g0, g1, g2⟩ := (hg1.below hb).three h3
        clear hr5 hM HR HM
        go_wp2_with fail
        refine (HSI.out _).mono ?_
        rintro e w6 ⟨rfl, b6⟩
        have hr6 := HR5.out.below b6
        go_wp2_with fail
        refine (HSA.out A5 c5 _ hr6).mono ?_
        rintro e w7 ⟨rfl, q, rfl⟩
        have hB := below_drewN' (hb.trans (b6.mono hb.size)) q
        go_wp2
        go_ret
        exact ⟨by rw [HE.out, ← HIC.out]; rfl, below_then b1 hB⟩

theorem IsClear_both (rows : List (List Int)) (told : List Int) : ∃ (v : Bool), (rows.length ≤ 1099511627776 → (∀ r ∈ rows, r.length ≤ 1099511627776) → told.length ≤ 1099511627776 →
    (∀ A T c d w, RdR w A c rows → Rd w T d told → told.length ≤ d → Calls Try.prog 26 #[.slice A rows.length c, .slice T told.length d] w fun e w' => e = .returned (.bool v) ∧ Below w.heap.size w w') ∧
    (∀ A T c d w, RdR w A c rows → Rd w T d told → told.length ≤ d → Calls Try.prog 25 #[.slice A rows.length c, .slice T told.length d] w fun e w' => e = .returned (.bool v) ∧ Below w.heap.size w w')) :=
  ⟨isB rows told, fun hl hl2 hl3 => ⟨fun A T c d w h1 h2 _ => SIsClear_any A T c d rows told w h1 h2 hl hl2 hl3,
    fun A T c d w h1 h2 _ => IsClear_any A T c d rows told w h1 h2 hl2⟩⟩

end Go.Proofs.Ytccbjgajmjcpjab

/-
  The laws of chapter 9: the walk of FnClearIsCore.
-/
namespace Go.Proofs.Ytccbjgajmjcpjab
open Go.RowKit Go.Lib

/-- A number is in a list. -/
noncomputable def hereB (xs : List Int) (x : Int) : Bool := @decide (x ∈ xs) (Classical.propDecidable _)
theorem hereB_true {xs : List Int} {x : Int} (h : x ∈ xs) : hereB xs x = true := by unfold hereB; simp [h]
def NoTo (xs : List Int) (x : Int) (k : Nat) : Prop := ∀ j, j < k → xs[j]? ≠ some x
set_option maxHeartbeats 400000 in
theorem isHere_any (A : Option Addr) (c : Nat) (xs : List Int) (x : Int) (w : World) (h1 : Rd w A c xs) (hl : xs.length ≤ 1099511627776) (hx : x ∈ xs) :
    Calls Try.prog 29 #[.slice A xs.length c, .int .i64 x] w fun e w' => e = .returned (.bool true) ∧ w = w' := by
  have HX : Hid (NoTo xs x xs.length → False) := Lib.hid (fun h => by
    obtain ⟨k, hk, he⟩ := List.mem_iff_getElem.1 hx
    exact h k hk (by rw [List.getElem?_eq_getElem hk, he]))
  clear hx
  go_enter Try.func29, Try.ntmps29
  go_wp2
  go_loop [5] (fun i => ∃ k : Nat, k ≤ xs.length ∧ i = .int .i64 k ∧ Hid (NoTo xs x k)) (fun i => xs.length - (intOf i).toNat)
  case atStart => exact ⟨0, Nat.zero_le _, rfl, Lib.hid (fun j hj => absurd hj (by omega))⟩
  case round =>
    obtain ⟨k, hk, rfl, HT⟩ := hrel
    by_cases hlt : k < xs.length
    · obtain ⟨b1, o1, y, rfl, _, hy, hc1⟩ := h1.at_ hlt
      by_cases hxy : y = x
      · have hne : (y == x) = true := by simpa using hxy
        clear hxy hy
        go_wp2
        go_ret
        exact ⟨rfl, rfl⟩
      · have hne : (y == x) = false := by simpa using hxy
        have HT' : Hid (NoTo xs x (k + 1)) := Lib.hid (fun j hj => by
          rcases Nat.lt_or_ge j k with h3 | h3
          · exact HT.out j h3
          · rw [show j = k by omega, hy.out]
            intro e
            exact hxy (Option.some.inj e))
        clear hxy hy
        go_wp2
        go_round
        case rel => exact ⟨k + 1, by omega, by go_num, HT'⟩
        case measure => simp [intOf]; omega
    · obtain rfl : k = xs.length := by omega
      exact absurd HT.out HX.out

theorem isB_says {rows : List (List Int)} {p : List Int} (h : isB rows p = true) : VTs rows ∧ VP p ∧ lo rows p = sv rows 7 := by
  unfold isB at h
  rw [Bool.and_eq_true, Bool.and_eq_true] at h
  exact ⟨vtsB_iff.1 h.1.1, vp_iff.1 h.1.2, icB_iff.1 h.2⟩
theorem clear_in {rows : List (List Int)} {p : List Int} (hv : VTs rows) (hp : VP p) (h : lo rows p = sv rows 7) : icoB rows (vls (costF rows (wayF rows) p) rows.length) = true := by
  have h1 := clear_core hv.2 hv.1.2 hp h
  refine icoB_true ⟨hv, vls_len _ _, fun x hx => ?_, h1.congr (fun i hi => ?_)⟩
  · obtain ⟨i, hi, rfl⟩ := List.mem_map.1 hx
    have hi := List.mem_range.1 hi
    have := h1.1 i hi
    have := (ow_bd hv.2 hi).2
    have := cost_bd (ts := rows) hp (wayF rows) i
    omega
  · rw [at0_of (vls_at hi)]
theorem prTo_step (p : List Int) (s k : Nat) : prTo p s (k + 1) = prTo p s k + ((s / 2 ^ k % 2 : Nat) : Int) * T p k := rfl
theorem prTo_bdX {p : List Int} (hp : VP p) (s : Nat) : ∀ k, k ≤ 3 → 0 ≤ prTo p s k ∧ prTo p s k ≤ 40 * k
  | 0, _ => by simp [prTo]
  | k + 1, hk => by
    have h1 := prTo_bdX hp s k (by omega)
    have h2 := hp.2 k (by omega)
    rw [prTo_step]
    have h3 : s / 2 ^ k % 2 = 0 ∨ s / 2 ^ k % 2 = 1 := by omega
    rcases h3 with h3 | h3 <;> rw [h3] <;> omega

set_option maxHeartbeats 8000000 in
set_option maxRecDepth 100000 in
theorem fnClearIsCore_walk {A : Option Addr} {c : Nat} {xs : List Int} {w : World} (h : Came .u8 w A c xs) :
    Calls Try.prog 4 #[.slice A xs.length c] w fun e w' => e = .returned (.bool true) ∧ Below w.heap.size w w' := by
  by_cases hlen : 1048576 < xs.length
  · go_enter Try.func4, Try.ntmps4
    go_wp2
    go_ret
    exact ⟨rfl, Below.refl _ _⟩
  have hl1 : xs.length ≤ 1048576 := by omega
  have HD := Lib.hid (DrawIsClear_any A c xs w h)
  clear hlen h
  go_enter Try.func4, Try.ntmps4
  go_wp2_with fail
  refine HD.out.mono ?_
  rintro e w1 ⟨A1, c1, rows, B1, d1, p, rfl, hR, hP, hl4, hl8, hp3, b1⟩
  have hl8' : ∀ r ∈ rows, r.length ≤ 1099511627776 := fun r hr => by have := hl8 r hr; omega
  have HS := Lib.hid (fun w' (h : RdR w' A1 c1 rows) (g : Rd w' B1 d1 p) => SIsClear_any A1 B1 c1 d1 rows p w' h g (by omega) hl8' (by omega))
  have HI := Lib.hid (fun w' (h : RdR w' A1 c1 rows) (g : Rd w' B1 d1 p) => IsClear_any A1 B1 c1 d1 rows p w' h g hl8')
  have HB := Lib.hid (fun w' (h : RdR w' A1 c1 rows) => BestSplit_any A1 c1 rows w' h hl8')
  have HIC := Lib.hid (fun (B : Option Addr) (d : Nat) (pays : List Int) w' (h : RdR w' A1 c1 rows) (g : Rd w' B d pays) (hpl : pays.length ≤ 4) => InCore_any A1 B c1 d rows pays w' h g hl8' (by omega))
  have HDA := Lib.hid (fun (A2 : Option Addr) (c2 : Nat) (t : List Int) w' (hv : VT t) (hp : VP p) (h : Rd w' A2 c2 t) (g : Rd w' B1 d1 p) => (by
    have := DemandAt_any A2 B1 c2 d1 t p w' h g (by have := hv.1; omega)
    rwa [dmB_yesC hv hp] at this : Calls Try.prog 30 #[.slice A2 t.length c2, .slice B1 p.length d1] w' (OwnIs w' (dm t p))))
  have HSAY := Lib.hid (@isB_says rows p)
  obtain ⟨v, hv⟩ : ∃ v, v = isB rows p := ⟨_, rfl⟩
  rw [← hv] at HS HI HSAY
  have hvv : (v != v) = false := by simp
  clear hv HD hl8 hl8' hl1
  go_wp2_with fail
  refine (HI.out w1 hR hP).mono ?_
  rintro e w2 ⟨rfl, b2⟩
  have B2 := below_then b1 b2
  have hR2 := hR.below b2
  have hP2 := hP.below b2
  clear b1 b2 hR hP
  go_wp2_with fail
  refine (HS.out w2 hR2 hP2).mono ?_
  rintro e w3 ⟨rfl, b3⟩
  have B3 := below_then B2 b3
  have hR3 := hR2.below b3
  have hP3 := hP2.below b3
  clear B2 b3 hR2 hP2
  go_wp2_with fail
  refine (HI.out w3 hR3 hP3).mono ?_
  rintro e w4 ⟨rfl, b4⟩
  have B4 := below_then B3 b4
  have hR4 := hR3.below b4
  have hP4 := hP3.below b4
  clear B3 b4 hR3 hP3 HI HS
  rcases v with _ | _
  · go_wp2
    go_ret
    exact ⟨rfl, B4⟩
  · obtain ⟨hvt, hvp, hlo⟩ := HSAY.out rfl
    have hsay := clear_says hvt.2 hvt.1.2 hvp hlo
    have HIN := Lib.hid (clear_in hvt hvp hlo)
    obtain ⟨n, hn⟩ : ∃ n, n = rows.length := ⟨_, rfl⟩
    have HN := Lib.hid hn
    have h4 : n ≤ 4 := by omega
    have HLF := Lib.hid hsay.1
    have HVT := Lib.hid hvt
    have HVP := Lib.hid hvp
    have HPB := Lib.hid (prTo_bdX hvp)
    rw [← hn] at HIN
    have HB1 := Lib.hid (HB.out w4 hR4)
    have hp3 : p.length = 3 := hvp.1
    rw [← hn] at HB1
    rw [hp3] at HDA
    clear hvt hvp hlo hsay HSAY hn HB
    rw [hp3]
    rw [← HN.out]
    go_wp2_with fail
    refine HB1.out.mono ?_
    rintro e w5 ⟨A5, c5, zs, M, rfl, o5, b5, ⟨_, hzs, hM⟩ | ⟨hno, _⟩⟩
    · rw [← HN.out] at hzs
      have hzl : zs.length = n := by rw [hzs, setsF_len']
      rw [hzl]
      subst hzs
      have HO5 := Lib.hid o5.rd
      have hR5 := Lib.hid (hR4.below b5)
      have hP5 := Lib.hid (hP4.below b5)
      have HB5 := Lib.hid (B4.trans (b5.mono B4.size))
      clear hM o5 b5 hR4 hP4 B4
      obtain ⟨cf, hcf⟩ : ∃ cf, cf = costF rows (wayF rows) p := ⟨_, rfl⟩
      have HCF : Hid (∀ k, cf k = prTo p (setOf (wayF rows) k) 3) := Lib.hid (fun k => by rw [hcf]; rfl)
      rw [← hcf] at HIN
      clear hcf
      go_wp2_with fail
      trace_state
      go_loopw [7, 8] (fun pv iv wr => ∃ (k g1 cc : Nat), k ≤ n ∧ iv = .int .i64 (k : Int) ∧ pv = .slice (some ⟨g1, 0, none⟩) k cc ∧ Hid (Own wr w5.heap.size (some ⟨g1, 0, none⟩) cc (vls cf k)) ∧ Hid (Below w5.heap.size w5 wr)) (fun _ iv _ => n - (intOf iv).toNat)
      case atStart => exact ⟨0, _, _, by omega, rfl, rfl, Lib.hid (own_new_ints w5), Lib.hid ((Below.refl _ w5).alloc (Nat.le_refl _) _)⟩
      case round =>
        obtain ⟨k, g1, cc, hk, rfl, rfl, HO, HBr⟩ := hrel
        have hRr := hR5.out.below HBr.out
        have hPr := hP5.out.below HBr.out
        by_cases hlt : k < n
        · obtain ⟨b, off, t, A', c', rfl, ht, hc0, hcap, hrd⟩ := hR5.out.at_ (k := k) (by rw [← HN.out]; exact hlt)
          have HK5 := Lib.hid (fun (W : World) (hW : Below w5.heap.size w5 W) (a : Addr) (v : Value) (hv : w5.cell? a = some v) => (hW.cell (p := a) (World.block_lt_of_cell? w5 _ hv)).trans hv)
          have hvt := HVT.out.2 t (List.mem_of_getElem? ht.out)
          obtain ⟨s, hs⟩ : ∃ s, s = setOf (wayF rows) k := ⟨_, rfl⟩
          have hs8 : s < 8 := by rw [hs]; exact setOf_lt _ k
          obtain ⟨b5', off5, x5, hA5, _, hx5, hcs0⟩ := HO5.out.at_ (k := k) (by rw [setsF_len']; exact hlt)
          subst hA5
          obtain rfl : x5 = (s : Int) := by have h9 := hx5.out; rw [setsF_at _ hlt, ← hs] at h9; exact (Option.some.inj h9).symm
          have HC3 := Lib.hid (HCF.out k)
          rw [← hs] at HC3
          have HDM : Hid (((s : Nat) : Int) ∈ dm t p) := Lib.hid (dm_mem.2 ⟨s, rfl, hs8, by
            have := HLF.out k (by rw [← HN.out]; exact hlt)
            rwa [getD_row ht.out, ← hs] at this⟩)
          have HPB1 := Lib.hid (HPB.out s)
          obtain ⟨B2, o2, hB2, _⟩ : ∃ b o, B1 = some ⟨b, o, none⟩ ∧ True := by
            obtain ⟨b, o, _, hA, _⟩ := hPr.at_ (k := 0) (by omega)
            exact ⟨b, o, hA, trivial⟩
          subst hB2
          have HPC : Hid (∀ j, j < 3 → wr.cell? ⟨B2, o2 + j, none⟩ = some (.int .i64 (T p j))) := Lib.hid (fun j hj => by
            obtain ⟨b', off', x, hA, _, hx, hcx⟩ := hPr.at_ (k := j) (by omega)
            cases hA
            rw [hcx, T_of hx.out])
          have HVPB := Lib.hid HVP.out.2
          have hkn : (k : Int) < (n : Int) := by omega
          have hk0 : (0 : Int) ≤ (k : Int) := by omega
          have HDA1 := Lib.hid (fun w' (h : Rd w' A' c' t) (g : Rd w' (some ⟨B2, o2, none⟩) d1 p) => HDA.out A' c' t w' hvt HVP.out h g)
          have HRD := Lib.hid hrd.out
          have HPR := Lib.hid hP5.out
          have htl := hvt.1
          rw [htl] at hc0 HDA1
          have hc := HK5.out _ HBr.out _ _ hc0
          have hcs := HK5.out _ HBr.out _ _ hcs0
          have HC0 := Lib.hid hc0
          have HCS0 := Lib.hid hcs0
          clear hc0 hcs0
          clear hvt hs hrd ht hcap hPr hRr hx5
          go_wp2_with fail
          go_loopw [9, 10] (fun pv iv wt => ∃ (j q : Nat), j ≤ 3 ∧ iv = .int .i64 (j : Int) ∧ pv = .int .i64 (prTo p s j) ∧ wt = wr.drewN q) (fun _ iv _ => 3 - (intOf iv).toNat)
          case atStart => exact ⟨0, 0, by omega, rfl, rfl, rfl⟩
          case round =>
            obtain ⟨j, q, hj, rfl, rfl, rfl⟩ := hrel
            by_cases hlt3 : j < 3
            · have hcp := HPC.out j hlt3
              have hpb := HVPB.out j hlt3
              have hqb := HPB1.out j (by omega)
              have HBT := Lib.hid (fun w => Lbit_any s j hs8 hlt3 w)
              have HST := Lib.hid (prTo_step p s j)
              have hbl : s / 2 ^ j % 2 = 0 ∨ s / 2 ^ j % 2 = 1 := by omega
              obtain ⟨b', hb'⟩ : ∃ b', b' = s / 2 ^ j % 2 := ⟨_, rfl⟩
              rw [← hb'] at HBT HST hbl
              obtain ⟨x, hx⟩ : ∃ x, x = T p j := ⟨_, rfl⟩
              rw [← hx] at hcp hpb HST
              obtain ⟨z, hz⟩ : ∃ z, z = prTo p s j := ⟨_, rfl⟩
              rw [← hz] at hqb HST ⊢
              have hj3 : (j : Int) < 3 := by omega
              have hj0 : (0 : Int) ≤ (j : Int) := by omega
              have hmb : 0 ≤ (b' : Int) * x ∧ (b' : Int) * x ≤ 40 := by rcases hbl with h | h <;> rw [h] <;> omega
              have e1 : IntKind.i64.wrap ((b' : Int) * x) = (b' : Int) * x := IntWalk.i64_in _ (by omega)
              have e2 : IntKind.i64.wrap (z + (b' : Int) * x) = z + (b' : Int) * x := IntWalk.i64_in _ (by omega)
              clear hb' hx hz hbl hmb hqb hpb
              go_wp2_with fail
              go_quiet ((go_at_call 28; exact calls_q (HBT.out _)))
              go_wp2
              go_roundw
              case rel => exact ⟨j + 1, _, hlt3, by go_num, by rw [HST.out], rfl⟩
              case measure => simp [intOf]; omega
            · obtain rfl : j = 3 := by omega
              rw [← HC3.out]
              rw [show ((3 : Nat) : Int) = (3 : Int) from rfl]
              have HLL := Lib.hid (vls_len cf k)
              have HMO := Lib.hid (vls_more cf k)
              have HO6 := Lib.hid (((HO.out.drewN q)).below ((Below.refl (wr.drewN q).heap.size (wr.drewN q)).alloc (Nat.le_refl _) (.cells #[.int .i64 (cf k)] 3)))
              have HL6 := Lib.hid (own_lit (wr.drewN q) [cf k] (by simp)).rd
              have HSZ : Hid (w5.heap.size ≤ ((wr.drewN q).alloc (.cells #[.int .i64 (cf k)] 3)).heap.size) := Lib.hid (Nat.le_trans HBr.out.size ((Below.refl _ (wr.drewN q)).alloc (Nat.le_refl _) (.cells #[.int .i64 (cf k)] 3)).size)
              have HBA : Hid (Below w5.heap.size w5 ((wr.drewN q).alloc (.cells #[.int .i64 (cf k)] 3))) := Lib.hid ((below_drewN' HBr.out q).alloc HBr.out.size _)
              go_wp2_with (at_builtin; refine wpList_append_any rfl _ _ 26 Try.underlying26 rfl w5.heap.size (some ⟨g1, 0, none⟩) cc (vls cf k) k HLL.out rfl HO6.out (some ⟨wr.heap.size, 0, none⟩) 1 [cf k] 1 rfl rfl HL6.out (by omega) HSZ.out ?_; intro A7 c7 w7 ho7 hg7; have HB7 := Lib.hid (HBA.out.grown hg7 HSZ.out (fun q e => by cases e; exact (World.ownsRow.lt HO.out _ rfl).1)); rw [← HMO.out] at ho7; have HO7 := Lib.hid ho7; have HR7 := Lib.hid ((hR5.out.below HB7.out)); have HP7 := Lib.hid ((hP5.out.below HB7.out)); clear ho7 hg7)
              have hc7 := HK5.out _ HB7.out _ _ HC0.out
              have hcs7 := HK5.out _ HB7.out _ _ HCS0.out
              have HRD7 := Lib.hid (HRD.out.below HB7.out)
              have HPR7 := Lib.hid (HPR.out.below HB7.out)
              have hK0 : w7.drew.cell? ⟨b, off + k, none⟩ = some (.slice A' 8 c') ∧ w7.drew.cell? ⟨b5', off5 + k, none⟩ = some (.int .i64 (s : Int)) := ⟨hc7, hcs7⟩
              have HDA7 := Lib.hid (HDA1.out w7.drew (HRD7.out.drewN 1) (HPR7.out.drewN 1))
              have HB7d : Hid (Below w5.heap.size w5 w7.drew) := Lib.hid (below_drewN' HB7.out 1)
              have HO7d : Hid (Own w7.drew w5.heap.size A7 c7 (vls cf (k + 1))) := Lib.hid (HO7.out.drewN 1)
              clear hc7 hcs7
              go_wp2_with fail
              go_region_held3 (fun W => W.cell? ⟨b, off + k, none⟩ = some (.slice A' 8 c') ∧ W.cell? ⟨b5', off5 + k, none⟩ = some (.int .i64 (s : Int)))
                (first | exact hK0 | exact hK8 | fail)
                (first
                | (go_at_call 30; refine HDA7.out.mono ?_; rintro e w8 ⟨A8, c8, rfl, o8, b8⟩; have HO8 := Lib.hid o8.rd; have HB8 := Lib.hid (HB7d.out.trans (b8.mono HB7d.out.size)); have hK8 : w8.cell? ⟨b, off + k, none⟩ = some (.slice A' 8 c') ∧ w8.cell? ⟨b5', off5 + k, none⟩ = some (.int .i64 (s : Int)) := ⟨HK5.out _ HB8.out _ _ HC0.out, HK5.out _ HB8.out _ _ HCS0.out⟩; have HOW8 := Lib.hid (HO7d.out.below b8); clear b8 o8)
                | (go_at_call 29; refine (isHere_any A8 c8 (dm t p) (s : Int) _ HO8.out (by have := dm_len t p; omega) HDM.out).mono ?_; rintro e w9 ⟨rfl, rfl⟩)
                | fail)
              obtain ⟨g7, hg7⟩ := own_some HOW8.out (by rw [vls_len]; omega)
              subst hg7
              go_wp2
              go_roundw
              case rel => exact ⟨k + 1, g7, c7, hlt, by go_num, rfl, HOW8, HB8⟩
              case measure => simp [intOf]; omega
        · obtain rfl : k = n := by omega
          have HIC1 := Lib.hid (HIC.out (some ⟨g1, 0, none⟩) cc (vls cf k) wr hRr HO.out.rd (by rw [vls_len]; exact h4))
          rw [HIN.out, vls_len, ← HN.out] at HIC1
          clear HIN HIC
          go_wp2_with fail
          refine HIC1.out.mono ?_
          rintro e w9 ⟨rfl, b9⟩
          go_wp2
          go_ret
          exact ⟨rfl, HB5.out.trans ((HBr.out.trans (b9.mono HBr.out.size)).mono HB5.out.size)⟩
    · exact absurd HVT.out hno

end Go.Proofs.Ytccbjgajmjcpjab
