/-
  Chapter 8: whether prices go with pairs, of the model.
-/
import Derived.Test.YtpildecpabeanabG32
import Derived.Test.YtpildecpabeanabOd
namespace Go.Proofs.Ytpildecpabeanab
open Go.RowKit

theorem end_snoc (m : Nat) (a : List Nat) (j : Nat) : ∀ u, endU m u (a ++ [j]) = nxU m (endU m u a) j := by
  induction a with
  | nil => intro u; rfl
  | cons x xs ih => intro u; exact ih _
theorem mt_at {m : Nat} (hm : m ≤ 4) {rows : List (List Int)} : ∀ (u : Nat) (js : List Nat), u < 16 → Mt m rows u js → ∀ k j, js[k]? = some j → j ≤ m ∧ isTk m (endU m u (js.take k)) j = false ∧ endU m u (js.take k) < 16 := by
  induction rows with
  | nil => intro u js _ h k j hj; rw [Mt] at h; simp [h] at hj
  | cons r rs ih =>
    intro u js hu h k j hj
    obtain ⟨j0, js', rfl, h0, hf, h'⟩ := h
    cases k with
    | zero => simp at hj; subst hj; exact ⟨h0, hf, hu⟩
    | succ k => exact ih _ js' (nx_tk hm hu h0 hf).1 h' k j (by simpa using hj)
theorem or_tk {m u j : Nat} (hm : m ≤ 4) (hu : u < 16) (hj : j < m) (hf : isTk m u j = false) : bits .or .i64 (u : Int) ((2 ^ j : Nat) : Int) = ((u + 2 ^ j : Nat) : Int) := by
  have key : ∀ (j : Fin 4) (u : Fin 16), ¬ u.1 / 2 ^ j.1 % 2 = 1 → bits .or .i64 (u.1 : Int) ((2 ^ j.1 : Nat) : Int) = ((u.1 + 2 ^ j.1 : Nat) : Int) := by decide
  refine key ⟨j, by omega⟩ ⟨u, hu⟩ ?_
  simpa [isTk, hj] using hf
/-- The first k bidders have what is best. -/
def fitK (m : Nat) (rows : List (List Int)) (p : Nat → Int) (js : List Nat) (k : Nat) : Prop := ∀ i, i < k → (rows.getD i []).getD (js.getD i 0) 0 - p (js.getD i 0) = bo m (rows.getD i []) 0 p
theorem fit_spt {m : Nat} {p : Nat → Int} : ∀ (rows : List (List Int)) (js : List Nat), js.length = rows.length → fitK m rows p js rows.length → sptW m rows p js := by
  intro rows
  induction rows with
  | nil => intro js _ _; cases js <;> trivial
  | cons r rs ih =>
    intro js hl h
    cases js with
    | nil => simp at hl
    | cons j js => exact ⟨h 0 (by simp), ih js (by simpa using hl) (fun i hi => h (i + 1) (by simpa using hi))⟩
theorem fit_step {m : Nat} {rows : List (List Int)} {p : Nat → Int} {js : List Nat} {k : Nat} (h : fitK m rows p js k) (h1 : (rows.getD k []).getD (js.getD k 0) 0 - p (js.getD k 0) = bo m (rows.getD k []) 0 p) : fitK m rows p js (k + 1) := by
  intro i hi
  rcases Nat.lt_or_ge i k with h2 | h2
  · exact h i h2
  · obtain rfl : i = k := by omega
    exact h1
theorem Rd.bl {w w' : World} {A : Option Addr} {c : Nat} {xs : List Int} (h : Rd w A c xs) (hb : Below w.heap.size w w') : Rd w' A c xs := h.below hb

set_option maxRecDepth 100000 in
set_option maxHeartbeats 2000000 in
theorem supports_any (A B C : Option Addr) (c d e m : Nat) (rows : List (List Int)) (p : List Int) (js : List Nat) (w : World) (v : Bool) (h : RdR w A c rows) (hP : Rd w B d p) (hL : Rd w C e (nl js)) (hk : Rk m rows) (h12 : R12 rows) (h4 : m ≤ 4) (hn : rows.length ≤ 4) (hp : p.length = m) (hpb : ∀ j, 0 ≤ p.getD j 0 ∧ p.getD j 0 ≤ 40) (hM : Mt m rows 0 js) (hv : v = true ↔ goW m rows (P1 p) js) :
    Calls Try.prog 53 #[.slice A rows.length c, .slice B m d, .slice C rows.length e] w fun e w' => e = .returned (.bool v) ∧ ∃ n, w' = w.drewN n := by
  have hjl := mt_len 0 js hM
  have hjn : (nl js).length = rows.length := by rw [nl_len, hjl]
  have HEU := Lib.hid (end_tk h4 0 js (by omega) hM).1
  have HMT := Lib.hid (mt_at h4 0 js (by omega) hM)
  have HPN : Hid (∀ j, m ≤ j → P1 p j = 0) := Lib.hid (fun j hj => by unfold P1; rw [List.getD_eq_getElem?_getD, List.getElem?_eq_none (by omega)]; rfl)
  have HV := Lib.hid hv
  have HPB := Lib.hid hpb
  have HR := Lib.hid h
  have HP := Lib.hid hP
  have HL := Lib.hid hL
  have HRK := Lib.hid hk
  have H12 := Lib.hid h12
  have HPM := Lib.hid hp
  have HJN := Lib.hid hjn
  have HJL := Lib.hid hjl
  clear h hP hL hk h12 hp hpb hM hv hjl hjn
  go_enter Try.func53, Try.ntmps53
  go_wp2
  go_loopw [7, 8] (fun o i wr => ∃ (k n s : Nat), k ≤ rows.length ∧ i = .int .i64 k ∧ wr = w.drewN n ∧ o = .int .i64 (s : Int) ∧ Hid (s = endU m 0 (js.take k)) ∧ Hid (fitK m rows (P1 p) js k)) (fun _ i _ => rows.length - (intOf i).toNat)
  case atStart => exact ⟨0, 0, 0, Nat.zero_le _, rfl, rfl, rfl, Lib.hid rfl, Lib.hid (fun i hi => absurd hi (by omega))⟩
  case round =>
    obtain ⟨k, n, s, hkl, rfl, rfl, rfl, HS, HF⟩ := hrel
    by_cases hlt : k < rows.length
    · obtain ⟨b, off, r, A', c', rfl, hr, hc, hcap, hrd⟩ := HR.out.at_ hlt
      obtain ⟨b2, o2, z, rfl, _, hz, hcz⟩ := HL.out.at_ (k := k) (by rw [HJN.out]; exact hlt)
      have hkj : k < js.length := by rw [HJL.out]; exact hlt
      obtain ⟨j, hj⟩ : ∃ j, j = js[k] := ⟨_, rfl⟩
      have hjk : js[k]? = some j := by rw [hj]; exact List.getElem?_eq_getElem hkj
      have hzj : z = (j : Int) := by
        have := hz.out
        rw [nl, List.getElem?_map, hjk] at this
        simpa using this.symm
      subst hzj
      obtain ⟨hjm, hjf, hs16⟩ := HMT.out k j hjk
      rw [← HS.out] at hjf hs16
      have hrm := List.mem_of_getElem? hr.out
      have hrl := (HRK.out r hrm).1
      have hrb : ∀ j, 0 ≤ r.getD j 0 ∧ r.getD j 0 ≤ 12 := fun j => ⟨(HRK.out r hrm).2 j, H12.out r hrm j⟩
      have hrg : rows.getD k [] = r := by rw [List.getD_eq_getElem?_getD, hr.out]; rfl
      have hjg : js.getD k 0 = j := by rw [List.getD_eq_getElem?_getD, hjk]; rfl
      have hst : endU m 0 (js.take (k + 1)) = nxU m s j := by
        rw [List.take_add_one, hjk, Option.toList_some, end_snoc, ← HS.out]
      have HBO : Hid (∀ n, Calls Try.prog 86 #[.slice A' m c', .slice B m d] (w.drewN n) fun e w' => e = .returned (.int .i64 (bo m r 0 (P1 p))) ∧ ∃ n', w' = (w.drewN n).drewN n') := Lib.hid (fun n => bestOf_any A' B c' d m r p _ (hrd.out.below (below_drewN' (Below.refl w.heap.size w) n)) (HP.out.below (below_drewN' (Below.refl w.heap.size w) n)) hrl HPM.out h4 hrb (fun j => by have := HPB.out j; omega))
      have hbd := boTo_bd (m := m) (p := P1 p) hrb (fun j => (HPB.out j).1) m
      obtain ⟨t, ht⟩ : ∃ t, t = bo m r 0 (P1 p) := ⟨_, rfl⟩
      have hFS : r.getD j 0 - P1 p j = t → fitK m rows (P1 p) js (k + 1) := fun he => fit_step HF.out (by rw [hrg, hjg, ← ht]; exact he)
      have hFN : ¬ r.getD j 0 - P1 p j = t → v = false := fun he => by
        cases hvv : v with
        | false => rfl
        | true =>
          refine absurd (spt_at rows js k HJL.out (HV.out.1 hvv).1 hlt) ?_
          rw [hrg, hjg, ← ht]; exact he
      rw [← ht] at HBO
      rw [hrl] at hc
      by_cases hjlt : j < m
      · obtain ⟨b3, o3, x, rfl, _, hx, hcx⟩ := hrd.out.at_ (k := j) (by rw [hrl]; exact hjlt)
        obtain ⟨b4, o4, y, rfl, _, hy, hcy⟩ := HP.out.at_ (k := j) (by rw [HPM.out]; exact hjlt)
        have hxr : r.getD j 0 = x := by rw [List.getD_eq_getElem?_getD, hx.out]; rfl
        have hyp : P1 p j = y := by unfold P1; rw [List.getD_eq_getElem?_getD, hy.out]; rfl
        have hx2 := hrb j
        have hy2 := HPB.out j
        rw [hxr] at hx2
        rw [show p.getD j 0 = y from hyp] at hy2
        rw [hxr, hyp] at hFS hFN
        have hw1 : IntKind.i64.wrap (x - y) = x - y := IntWalk.i64_in _ (by omega)
        have hor := or_tk h4 hs16 hjlt hjf
        have HPW := Lib.hid (fun w1 => Spow4_any j (by omega) w1)
        have hst2 : endU m 0 (js.take (k + 1)) = s + 2 ^ j := by rw [hst, nxU, if_pos hjlt]
        obtain ⟨q, hq⟩ : ∃ q, q = 2 ^ j := ⟨_, rfl⟩
        rw [← hq] at HPW hor hst2
        have HST := Lib.hid hst2
        clear hst hst2 hz hx hy hr hxr hyp hq hj hjk hjf hrb hrg hjg hrl hrm hbd ht hrd hkj
        by_cases he : x - y = t
        · have HFK := Lib.hid (hFS he)
          have heb : (x - y == t) = true := by simpa using he
          clear hFS hFN
          go_wp2_with fail
          go_quiet (fail)
          go_wp2_with (first | (go_at_call 71; refine (HPW.out _).mono ?_; rintro e w4 ⟨rfl, rfl⟩) | (go_at_call 86; refine (HBO.out _).mono ?_; rintro e w4 ⟨rfl, n4, rfl⟩))
          go_roundw
          case rel => exact ⟨k + 1, _, s + q, hlt, by go_num, rfl, by go_num, Lib.hid HST.out.symm, HFK⟩
          case measure => simp [intOf]; omega
        · have HNV := Lib.hid (hFN he)
          have heb : (x - y == t) = false := by simpa using he
          clear hFS hFN
          go_wp2_with fail
          go_quiet (fail)
          go_wp2_with (first | (go_at_call 71; refine (HPW.out _).mono ?_; rintro e w4 ⟨rfl, rfl⟩) | (go_at_call 86; refine (HBO.out _).mono ?_; rintro e w4 ⟨rfl, n4, rfl⟩))
          go_ret
          exact ⟨by rw [HNV.out]; rfl, _, rfl⟩
      · obtain rfl : j = m := by omega
        have hx0 : r.getD j 0 = 0 := by rw [List.getD_eq_getElem?_getD, List.getElem?_eq_none (by omega)]; rfl
        have hy0 := HPN.out j (Nat.le_refl _)
        rw [hx0, hy0] at hFS hFN
        have HST : Hid (s = endU j 0 (js.take (k + 1))) := Lib.hid (by rw [hst, nxU, if_neg (by omega)])
        clear hst hz hr hj hjk hjf hrb hrg hjg hrl hrm hbd ht hrd hkj hx0 hy0
        by_cases he : (0 : Int) = t
        · have HFK := Lib.hid (hFS (by omega))
          have heb : ((0 : Int) == t) = true := by simpa using he
          clear hFS hFN
          go_wp2_with (go_at_call 86; refine (HBO.out _).mono ?_; rintro e w4 ⟨rfl, n4, rfl⟩)
          go_roundw
          case rel => exact ⟨k + 1, _, s, hlt, by go_num, rfl, rfl, HST, HFK⟩
          case measure => simp [intOf]; omega
        · have HNV := Lib.hid (hFN (by omega))
          have heb : ((0 : Int) == t) = false := by simpa using he
          clear hFS hFN
          go_wp2_with (go_at_call 86; refine (HBO.out _).mono ?_; rintro e w4 ⟨rfl, n4, rfl⟩)
          go_ret
          exact ⟨by rw [HNV.out]; rfl, _, rfl⟩
    · obtain rfl : k = rows.length := by omega
      have hspt := fit_spt rows js HJL.out HF.out
      have hjt : js.take rows.length = js := List.take_of_length_le (by rw [HJL.out]; exact Nat.le_refl _)
      have hse : s = endU m 0 js := by rw [HS.out, hjt]
      have HG : Hid (v = true ↔ ∀ j, j < m → isTk m s j = false → P1 p j = 0) := Lib.hid (by rw [HV.out, hse]; exact ⟨fun h => h.2, fun h => ⟨hspt, h⟩⟩)
      have hs16 : s < 16 := by rw [hse]; exact HEU.out
      clear hspt hjt hse HS HF HMT
      go_wp2
      go_loopw [10] (fun i wr => ∃ (j n : Nat), j ≤ m ∧ i = .int .i64 j ∧ wr = w.drewN n ∧ Hid (∀ j', j' < j → isTk m s j' = false → P1 p j' = 0)) (fun i _ => m - (intOf i).toNat)
      case atStart => exact ⟨0, n, Nat.zero_le _, rfl, rfl, Lib.hid (fun j' h => absurd h (by omega))⟩
      case round =>
        obtain ⟨j, n2, hjm, rfl, rfl, HJ⟩ := hrel
        by_cases hjlt : j < m
        · obtain ⟨b4, o4, y, rfl, _, hy, hcy⟩ := HP.out.at_ (k := j) (by rw [HPM.out]; exact hjlt)
          have hyp : P1 p j = y := by unfold P1; rw [List.getD_eq_getElem?_getD, hy.out]; rfl
          have hy2 := HPB.out j
          rw [show p.getD j 0 = y from hyp] at hy2
          have HBT := Lib.hid (fun w1 => Sbit4_any s j hs16 (by omega) w1)
          have htk : isTk m s j = decide (s / 2 ^ j % 2 = 1) := by simp [isTk, hjlt]
          obtain ⟨q, hq⟩ : ∃ q, q = s / 2 ^ j % 2 := ⟨_, rfl⟩
          have hq2 : q < 2 := by rw [hq]; exact Nat.mod_lt _ (by omega)
          rw [← hq] at HBT htk
          by_cases hq0 : q = 0
          · by_cases hy0 : y = 0
            · have HJ' : Hid (∀ j', j' < j + 1 → isTk m s j' = false → P1 p j' = 0) := Lib.hid (fun j' h1 h2 => by
                rcases Nat.lt_or_ge j' j with h3 | h3
                · exact HJ.out j' h3 h2
                · obtain rfl : j' = j := by omega
                  rw [hyp, hy0])
              clear hq htk hy hyp
              subst hq0 hy0
              go_wp2_with (go_at_call 85; refine (HBT.out _).mono ?_; rintro e w4 ⟨rfl, rfl⟩)
              go_roundw
              case rel => exact ⟨j + 1, _, hjlt, by go_num, rfl, HJ'⟩
              case measure => simp [intOf]; omega
            · have HNV : Hid (v = false) := Lib.hid (by
                cases hvv : v with
                | false => rfl
                | true => exact absurd (HG.out.1 hvv j hjlt (by rw [htk, hq0]; rfl)) (by rw [hyp]; exact hy0))
              have hyg : 0 < y := by omega
              clear hq htk hy hyp
              subst hq0
              go_wp2_with (go_at_call 85; refine (HBT.out _).mono ?_; rintro e w4 ⟨rfl, rfl⟩)
              go_ret
              exact ⟨by rw [HNV.out]; rfl, _, rfl⟩
          · obtain rfl : q = 1 := by omega
            have HJ' : Hid (∀ j', j' < j + 1 → isTk m s j' = false → P1 p j' = 0) := Lib.hid (fun j' h1 h2 => by
                rcases Nat.lt_or_ge j' j with h3 | h3
                · exact HJ.out j' h3 h2
                · obtain rfl : j' = j := by omega
                  rw [htk] at h2; simp at h2)
            clear hq htk hy hyp
            go_wp2_with (go_at_call 85; refine (HBT.out _).mono ?_; rintro e w4 ⟨rfl, rfl⟩)
            go_roundw
            case rel => exact ⟨j + 1, _, hjlt, by go_num, rfl, HJ'⟩
            case measure => simp [intOf]; omega
        · obtain rfl : j = m := by omega
          have HYV : Hid (v = true) := Lib.hid (HG.out.2 HJ.out)
          go_wp2
          go_ret
          exact ⟨by rw [HYV.out]; rfl, _, rfl⟩

end Go.Proofs.Ytpildecpabeanab
