/-
  Chapter 8: the model's power and bit of four things, and its best pairs.
-/
import Derived.Test.YtpildecpabeanaaG05
import Derived.Test.YtpildecpabeanaaG04
namespace Go.Proofs.Ytpildecpabeanaa
open Go.RowKit

theorem Spow4_any (j : Nat) (hj : j ≤ 4) (w : World) :
    Calls Try.prog 113 #[.int .i64 (j : Int)] w fun e w' => e = .returned (.int .i64 ((2 ^ j : Nat) : Int)) ∧ w = w' := by
  go_enter Try.func113, Try.ntmps113
  go_wp2
  go_loop [0, 3] (fun n o => ∃ m : Nat, m ≤ j ∧ n = .int .i64 (m : Int) ∧ o = .int .i64 ((2 ^ (j - m) : Nat) : Int)) (fun n _ => (intOf n).toNat)
  case atStart => exact ⟨j, Nat.le_refl _, rfl, by simp⟩
  case round =>
    obtain ⟨m, hm, rfl, rfl⟩ := hrel
    cases m with
    | zero =>
      go_wp2
      go_ret
      exact ⟨rfl, rfl⟩
    | succ m =>
      have hp : 2 ^ (j - (m + 1)) ≤ 8 := by
        have : j - (m + 1) ≤ 3 := by omega
        calc 2 ^ (j - (m + 1)) ≤ 2 ^ 3 := Nat.pow_le_pow_right (by decide) this
          _ = 8 := rfl
      have he : 2 ^ (j - m) = 2 * 2 ^ (j - (m + 1)) := by rw [show j - m = (j - (m + 1)) + 1 by omega, Nat.pow_succ]; omega
      obtain ⟨q, hq⟩ : ∃ q, q = 2 ^ (j - (m + 1)) := ⟨_, rfl⟩
      rw [← hq] at hp he ⊢
      have HE := Lib.hid he
      have hm' : (0 : Int) < ((m + 1 : Nat) : Int) := by omega
      clear hq he
      go_wp2
      go_round
      case rel => exact ⟨m, by omega, by go_num, by rw [HE.out]; go_num⟩
      case measure => simp [intOf]

theorem Sbit4_any (x j : Nat) (hx : x < 16) (hj : j < 4) (w : World) :
    Calls Try.prog 139 #[.int .i64 (x : Int), .int .i64 (j : Int)] w fun e w' => e = .returned (.int .i64 ((x / 2 ^ j % 2 : Nat) : Int)) ∧ w = w' := by
  have HP := Lib.hid (fun w => Spow4_any j (by omega) w)
  have hv : (wrap64 ((x : Int) / ((2 ^ j : Nat) : Int))).tmod 2 = ((x / 2 ^ j % 2 : Nat) : Int) := by
    have : ∀ x, x < 16 → ∀ j, j < 4 → (wrap64 (((x : Nat) : Int) / ((2 ^ j : Nat) : Int))).tmod 2 = ((x / 2 ^ j % 2 : Nat) : Int) := by decide +kernel
    exact this x hx j hj
  obtain ⟨p, hp⟩ : ∃ p, p = 2 ^ j := ⟨_, rfl⟩
  have hp0 : (p : Int) ≠ 0 := by
    have : 0 < 2 ^ j := Nat.pow_pos (by decide)
    omega
  rw [← hp] at HP hv ⊢
  have HV := Lib.hid hv
  clear hv hp
  go_enter Try.func139, Try.ntmps139
  go_wp2_with (go_at_call 113; refine (HP.out _).mono ?_; rintro e w1 ⟨rfl, rfl⟩)
  go_ret
  exact ⟨by rw [← HV.out]; rfl, rfl⟩

/-- Worths of at most twelve. -/
def R12 (rows : List (List Int)) : Prop := ∀ r ∈ rows, ∀ j, r.getD j 0 ≤ 12
theorem VR.rk {rows : List (List Int)} (h : VR rows) : Rk (RW rows 0).length rows ∧ R12 rows ∧ 1 ≤ (RW rows 0).length ∧ (RW rows 0).length ≤ 4 := by
  have key : ∀ r ∈ rows, ∀ j, 0 ≤ r.getD j 0 ∧ r.getD j 0 ≤ 12 := by
    intro r hr j
    have h1 := (h.2 r hr).2
    simp only [wB, Bool.and_eq_true] at h1
    rw [List.getD_eq_getElem?_getD]
    rcases Nat.lt_or_ge j r.length with hj | hj
    · rw [List.getElem?_eq_getElem hj]
      exact inR_true.1 (List.all_eq_true.1 h1.2 _ (List.getElem_mem hj))
    · rw [List.getElem?_eq_none hj]; simp
  have h0 := (h.2 _ (rw_mem (rows := rows) (i := 0) (by have := h.1.1; omega))).2
  simp only [wB, Bool.and_eq_true] at h0
  have := inR_true.1 h0.1
  exact ⟨fun r hr => ⟨(h.2 r hr).1, fun j => (key r hr j).1⟩, fun r hr j => (key r hr j).2, by omega, by omega⟩
theorem pb_top {m : Nat} {rows : List (List Int)} (h : Rk m rows) (h12 : R12 rows) : ∀ u, (pb rows u).1 ≤ 12 * rows.length := by
  induction rows with
  | nil => intro u; simp [pb]
  | cons r rs ih =>
    intro u
    obtain ⟨⟨j, _, _, e⟩, _⟩ := pb_step h u
    have a := ih h.tail (fun x hx => h12 x (by simp [hx])) (nxU m u j)
    have b := h12 r (by simp) j
    rw [e]
    simp only [List.length_cons]
    omega
/-- What is found of the first k things. -/
theorem pbTo_skip {rest : Nat → Int × List Nat} {r : List Int} {u k : Nat} (hk : k < r.length) (h : u / 2 ^ k % 2 = 1) : pbTo rest r u (k + 1) = pbTo rest r u k := by
  rw [pbTo, if_pos (by simp [isTk, hk, h])]
theorem pbTo_new {rest : Nat → Int × List Nat} {r : List Int} {u k : Nat} (h : isTk r.length u k = false) (hlt : (pbTo rest r u k).1 < (optP rest r u k).1) : pbTo rest r u (k + 1) = optP rest r u k := by
  rw [pbTo, if_neg (by simp [h]), if_pos hlt]
theorem pbTo_old {rest : Nat → Int × List Nat} {r : List Int} {u k : Nat} (h : isTk r.length u k = false) (hlt : ¬ (pbTo rest r u k).1 < (optP rest r u k).1) : pbTo rest r u (k + 1) = pbTo rest r u k := by
  rw [pbTo, if_neg (by simp [h]), if_neg hlt]

/-- Who has what, as ints. -/
def nl (js : List Nat) : List Int := js.map (fun j : Nat => (j : Int))
theorem nl_len (js : List Nat) : (nl js).length = js.length := by simp [nl]
/-- The sum and the list, in memory of the call's own. -/
def PwIs (w : World) (v : Int × List Nat) (e : Ending) (w' : World) : Prop :=
  ∃ A c, e = .returned (.tuple #[.int .i64 v.1, .slice A v.2.length c]) ∧ Own w' w.heap.size A c (nl v.2) ∧ Below w.heap.size w w'

theorem pbTo_bd {m : Nat} {r : List Int} {rs : List (List Int)} (h : Rk m (r :: rs)) (h12 : R12 (r :: rs)) (u k : Nat) : -1 ≤ (pbTo (pb rs) r u k).1 ∧ (pbTo (pb rs) r u k).1 ≤ 12 * (rs.length + 1) ∧ (pbTo (pb rs) r u k).2.length ≤ rs.length + 1 := by
  have h0 : ∀ j u', 0 ≤ r.getD j 0 + (pb rs u').1 := fun j u' => by have := h.head.2 j; have := pb_nonneg h.tail u'; omega
  rcases (pbTo_is (pb rs) r u k h0).1 with ⟨e, _⟩ | ⟨j, _, _, e⟩
  · rw [e]; simp only [List.length_nil]; omega
  · rw [e]
    have := h0 j (nxU r.length u j)
    have := h12 r (by simp) j
    have := pb_top h.tail (fun x hx => h12 x (by simp [hx])) (nxU r.length u j)
    have := pb_len h.tail (nxU r.length u j)
    simp only [optP, List.length_cons]
    omega

set_option maxRecDepth 20000 in
set_option maxHeartbeats 4000000 in
theorem pairWorth_any (A : Option Addr) (c m : Nat) (rows : List (List Int)) (hm : m ≤ 4) (hk : Rk m rows) (h12 : R12 rows) (hl : rows.length ≤ 4) : ∀ (d i u : Nat) (w : World), i + d = rows.length → u < 16 → RdR w A c rows →
    Calls Try.prog 111 #[.slice A rows.length c, .int .i64 (i : Int), .int .i64 (u : Int)] w (PwIs w (pb (rows.drop i) u)) := by
  intro d
  induction d with
  | zero =>
    intro i u w hi hu hR
    obtain rfl : i = rows.length := by omega
    have hE : Hid (pb (rows.drop rows.length) u = (0, [])) := Lib.hid (by simp [pb])
    go_enter Try.func111, Try.ntmps111
    go_wp2
    go_ret2
    rw [hE.out]
    exact ⟨_, _, rfl, own_empty w, (Below.refl _ w).alloc (Nat.le_refl _) _⟩
  | succ d ih =>
    intro i u w hi hu hR
    have hil : i < rows.length := by omega
    obtain ⟨b, off, r, A', c', rfl, hr, hc, hcap, hrd⟩ := hR.at_ hil
    have hdrop : rows.drop i = r :: rows.drop (i + 1) := by
      rw [List.drop_eq_getElem_cons hil]
      have := hr.out
      rw [List.getElem?_eq_getElem hil] at this
      cases this; rfl
    have hk' : Rk m (r :: rows.drop (i + 1)) := by rw [← hdrop]; exact fun x hx => hk x (List.mem_of_mem_drop hx)
    have h12' : R12 (r :: rows.drop (i + 1)) := by rw [← hdrop]; exact fun x hx => h12 x (List.mem_of_mem_drop hx)
    have hrm : r.length = m := hk'.head.1
    have hdl : (rows.drop (i + 1)).length = d := by rw [List.length_drop]; omega
    have hi1 : IntKind.i64.wrap ((i : Int) + 1) = ((i + 1 : Nat) : Int) := by rw [IntWalk.i64_in _ (by omega)]; omega
    rw [hdrop]
    have HR0 := Lib.hid hR
    have HK := Lib.hid hk'
    have H12 := Lib.hid h12'
    have HBD := Lib.hid (fun k => pbTo_bd hk' h12' u k)
    have HPN := Lib.hid (fun v => pb_nonneg hk'.tail v)
    have HPT := Lib.hid (fun v => pb_top hk'.tail (fun x hx => h12' x (by simp [hx])) v)
    have HPL := Lib.hid (fun v => pb_len hk'.tail v)
    have HIH := Lib.hid (fun (v : Nat) (w1 : World) (hv : v < 16) (h1 : RdR w1 (some ⟨b, off, none⟩) c rows) => ih (i + 1) v w1 (by omega) hv h1)
    clear ih hdrop hr hk' h12' hk h12 hR
    rw [hdl] at HBD HPT
    generalize hrs : rows.drop (i + 1) = rs at *
    have hin : ((i : Int) == (rows.length : Int)) = false := by simp; omega
    go_enter Try.func111, Try.ntmps111
    go_wp2
    go_loopw [8, 9, 10] (fun bs ls j wr => ∃ (k : Nat) (A1 : Option Addr) (c1 n : Nat), k ≤ m + 1 ∧ j = .int .i64 k ∧ bs = .int .i64 (pbTo (pb rs) r u k).1 ∧ ls = .slice A1 n c1 ∧ Hid (n = (pbTo (pb rs) r u k).2.length) ∧ Hid (Own wr w.heap.size A1 c1 (nl (pbTo (pb rs) r u k).2)) ∧ Hid (Below w.heap.size w wr)) (fun _ _ j _ => m + 1 - (intOf j).toNat)
    case atStart => exact ⟨0, none, 0, 0, by omega, rfl, rfl, rfl, Lib.hid rfl, Lib.hid (own_none _ _), Lib.hid (Below.refl _ _)⟩
    case round =>
      obtain ⟨k, A1, c1, n, hk1, rfl, rfl, rfl, HN, HO, HB⟩ := hrel
      have HRW := Lib.hid (HR0.out.below HB.out)
      by_cases hkm : k < m
      · obtain ⟨b2, o2, x, rfl, _, hx, hcx⟩ := hrd.out.at_ (k := k) (by omega)
        have HX : Hid (r.getD k 0 = x) := Lib.hid (by rw [List.getD_eq_getElem?_getD, hx.out]; rfl)
        have hx0 := HK.out.head.2 k
        have hx1 := H12.out r (by simp) k
        rw [HX.out] at hx0 hx1
        have hcr := (HB.out.cell (p := ⟨b, off + i, none⟩) (World.block_lt_of_cell? w _ hc)).trans hc
        have hcx' := (HB.out.cell (p := ⟨b2, o2 + k, none⟩) (World.block_lt_of_cell? w _ hcx)).trans hcx
        clear hcx hc
        have hkr : (k : Int) ≤ (r.length : Int) := by omega
        have hkr2 : (k : Int) < (r.length : Int) := by omega
        by_cases hb : u / 2 ^ k % 2 = 1
        · have HBit : Hid (∀ w1, Calls Try.prog 139 #[.int .i64 (u : Int), .int .i64 (k : Int)] w1 fun e w' => e = .returned (.int .i64 1) ∧ w1 = w') := Lib.hid (fun w1 => by have := Sbit4_any u k hu (by omega) w1; rw [hb] at this; exact this)
          have HE := Lib.hid (pbTo_skip (rest := pb rs) (r := r) (u := u) (k := k) (by omega) hb)
          clear hb
          go_wp2_with (go_at_call 139; refine (HBit.out _).mono ?_; rintro e w1 ⟨rfl, rfl⟩)
          go_roundw
          case rel => exact ⟨k + 1, A1, c1, n, by omega, by go_num, by rw [HE.out], rfl, Lib.hid (by rw [HE.out]; exact HN.out), Lib.hid (by rw [HE.out]; exact HO.out), HB⟩
          case measure => simp [intOf]; omega
        · have hb0 : u / 2 ^ k % 2 = 0 := by omega
          have HBit : Hid (∀ w1, Calls Try.prog 139 #[.int .i64 (u : Int), .int .i64 (k : Int)] w1 fun e w' => e = .returned (.int .i64 0) ∧ w1 = w') := Lib.hid (fun w1 => by have := Sbit4_any u k hu (by omega) w1; rw [hb0] at this; exact this)
          have HF : Hid (isTk r.length u k = false) := Lib.hid (by simp [isTk, hb])
          have hv16 : u + 2 ^ k < 16 := by have := (nx_tk hm hu (j := k) (by omega) (by rw [← hrm]; exact HF.out)).1; unfold nxU at this; rw [if_pos hkm] at this; exact this
          obtain ⟨p, hp⟩ : ∃ p, p = 2 ^ k := ⟨_, rfl⟩
          have HPow : Hid (∀ w1, Calls Try.prog 113 #[.int .i64 (k : Int)] w1 fun e w' => e = .returned (.int .i64 (p : Int)) ∧ w1 = w') := Lib.hid (fun w1 => by have := Spow4_any k (by omega) w1; rw [← hp] at this; exact this)
          rw [← hp] at hv16
          have hup : IntKind.i64.wrap ((u : Int) + (p : Int)) = ((u + p : Nat) : Int) := by rw [IntWalk.i64_in _ (by omega)]; omega
          have HV : Hid (nxU r.length u k = u + p) := Lib.hid (by unfold nxU; rw [if_pos (by omega), hp])
          clear hb hb0 hp

          obtain ⟨y, js, hyj⟩ : ∃ y js, pb rs (u + p) = (y, js) := ⟨_, _, rfl⟩
          have HY0 := HPN.out (u + p)
          have HY1 := HPT.out (u + p)
          have HYL := HPL.out (u + p)
          have HC := HIH.out (u + p) wr hv16 HRW.out
          rw [hyj] at HY0 HY1 HYL HC
          simp only at HY0 HY1 HYL
          have hcast : (((i + 1 : Nat)) : Int) = (i : Int) + 1 := by omega
          have hcastu : (((u + p : Nat)) : Int) = (u : Int) + (p : Int) := by omega
          rw [hcastu] at HC
          rw [hcast] at HC
          have HC' : Hid (Calls Try.prog 111 #[.slice (some ⟨b, off, none⟩) rows.length c, .int .i64 ((i : Int) + 1), .int .i64 ((u : Int) + (p : Int))] wr fun e w' => ∃ A2 c2, e = .returned (.tuple #[.int .i64 y, .slice A2 js.length c2]) ∧ Own w' wr.heap.size A2 c2 (nl js) ∧ Below wr.heap.size wr w') := Lib.hid HC
          have hbd := HBD.out k
          obtain ⟨z, hz⟩ : ∃ z, z = (pbTo (pb rs) r u k).1 := ⟨_, rfl⟩
          rw [← hz] at hbd ⊢
          have hwx : IntKind.i64.wrap (x + y) = x + y := IntWalk.i64_in _ (by omega)
          have HOPT : Hid (optP (pb rs) r u k = (x + y, k :: js)) := Lib.hid (by rw [optP, HX.out, HV.out, hyj])
          have HZ := Lib.hid hz
          have HJL := Lib.hid HYL
          have hjl1 : 1 + js.length ≤ 1099511627776 := by omega
          have HN1 := Lib.hid hjl1
          clear hz hyj HC hcast HYL hjl1 HBD HPN HPT HPL HIH
          by_cases hgt : z < x + y
          · have HE := Lib.hid (pbTo_new (rest := pb rs) (r := r) (u := u) (k := k) HF.out (by rw [← HZ.out, HOPT.out]; exact hgt))
            have hgtb : decide (x + y > z) = true := by simp; omega
            clear hgt
            go_wp2_with (first | (go_at_call 139; refine (HBit.out _).mono ?_; rintro e w1 ⟨rfl, rfl⟩) | (go_at_call 113; refine (HPow.out _).mono ?_; rintro e w1 ⟨rfl, rfl⟩))
            refine HC'.out.mono ?_
            rintro e w2 ⟨A2, c2, rfl, o2, b2⟩
            have HB2 := Lib.hid (HB.out.trans (b2.mono HB.out.size))
            have HLm := Lib.hid ((own_lit w2 [(k : Int)] (by simp)).base HB2.out.size)
            have HRj := Lib.hid ((o2.rd).below ((Below.refl _ w2).alloc (Nat.le_refl _) (.cells #[.int .i64 (k : Int)] 3)))
            have hsz : w.heap.size ≤ (w2.alloc (.cells #[.int .i64 (k : Int)] 3)).heap.size := Nat.le_trans HB2.out.size ((Below.refl _ w2).alloc (Nat.le_refl _) (.cells #[.int .i64 (k : Int)] 3)).size
            have HSZ := Lib.hid hsz
            clear o2 b2 hsz
            go_wp2_with (at_builtin; refine wpList_append_any rfl _ _ 23 Try.underlying23 rfl w.heap.size (some ⟨w2.heap.size, 0, none⟩) 1 [(k : Int)] 1 rfl rfl HLm.out A2 c2 (nl js) js.length (nl_len js) rfl HRj.out HN1.out HSZ.out ?_; intro A3 c3 w3 ho3 hg3)
            have HB3 := Lib.hid (((HB2.out.trans ((((Below.refl _ w2).alloc (Nat.le_refl _) (.cells #[.int .i64 (k : Int)] 3))).mono HB2.out.size))).grown hg3 HSZ.out (fun q e => by cases e; exact HB2.out.size))
            go_roundw
            case rel => exact ⟨k + 1, A3, c3, 1 + js.length, by omega, by go_num, by rw [HE.out, HOPT.out], rfl, Lib.hid (by rw [HE.out, HOPT.out, List.length_cons]; omega), Lib.hid (by rw [HE.out, HOPT.out]; exact ho3), HB3⟩
            case measure => simp [intOf]; omega
          · have HE := Lib.hid (pbTo_old (rest := pb rs) (r := r) (u := u) (k := k) HF.out (by rw [← HZ.out, HOPT.out]; exact hgt))
            have hgtb : decide (x + y > z) = false := by simp; omega
            clear hgt
            go_wp2_with (first | (go_at_call 139; refine (HBit.out _).mono ?_; rintro e w1 ⟨rfl, rfl⟩) | (go_at_call 113; refine (HPow.out _).mono ?_; rintro e w1 ⟨rfl, rfl⟩))
            refine HC'.out.mono ?_
            rintro e w2 ⟨A2, c2, rfl, _, b2⟩
            have HB2 := Lib.hid (HB.out.trans (b2.mono HB.out.size))
            have HO2 := Lib.hid (HO.out.below b2)
            clear b2
            go_wp2
            go_roundw
            case rel => exact ⟨k + 1, A1, c1, n, by omega, by go_num, by rw [HE.out, HZ.out], rfl, Lib.hid (by rw [HE.out]; exact HN.out), Lib.hid (by rw [HE.out]; exact HO2.out), HB2⟩
            case measure => simp [intOf]; omega
      · by_cases hke : k = m
        · have HX : Hid (r.getD k 0 = 0) := Lib.hid (by rw [List.getD_eq_getElem?_getD, List.getElem?_eq_none (by omega)]; rfl)
          have HV : Hid (nxU r.length u k = u) := Lib.hid (by unfold nxU; rw [if_neg (by omega)])
          have HF : Hid (isTk r.length u k = false) := Lib.hid (by simp [isTk]; omega)
          have hcr := (HB.out.cell (p := ⟨b, off + i, none⟩) (World.block_lt_of_cell? w _ hc)).trans hc
          clear hc
          have hkr : (k : Int) ≤ (r.length : Int) := by omega
          have hkr2 : ¬ (k : Int) < (r.length : Int) := by omega
          have hkm2 : k ≤ m := by omega
          clear hke hkm hk1
          obtain ⟨y, js, hyj⟩ : ∃ y js, pb rs (u) = (y, js) := ⟨_, _, rfl⟩
          have HY0 := HPN.out (u)
          have HY1 := HPT.out (u)
          have HYL := HPL.out (u)
          have HC := HIH.out (u) wr hu HRW.out
          rw [hyj] at HY0 HY1 HYL HC
          simp only at HY0 HY1 HYL
          have hcast : (((i + 1 : Nat)) : Int) = (i : Int) + 1 := by omega
          have hcastu : True := trivial
          rw [hcast] at HC
          have HC' : Hid (Calls Try.prog 111 #[.slice (some ⟨b, off, none⟩) rows.length c, .int .i64 ((i : Int) + 1), .int .i64 ((u : Int))] wr fun e w' => ∃ A2 c2, e = .returned (.tuple #[.int .i64 y, .slice A2 js.length c2]) ∧ Own w' wr.heap.size A2 c2 (nl js) ∧ Below wr.heap.size wr w') := Lib.hid HC
          have hbd := HBD.out k
          obtain ⟨z, hz⟩ : ∃ z, z = (pbTo (pb rs) r u k).1 := ⟨_, rfl⟩
          rw [← hz] at hbd ⊢
          have hwx : IntKind.i64.wrap y = y := IntWalk.i64_in _ (by omega)
          have HOPT : Hid (optP (pb rs) r u k = (y, k :: js)) := Lib.hid (by rw [optP, HX.out, HV.out, hyj, Int.zero_add])
          have HZ := Lib.hid hz
          have HJL := Lib.hid HYL
          have hjl1 : 1 + js.length ≤ 1099511627776 := by omega
          have HN1 := Lib.hid hjl1
          clear hz hyj HC hcast HYL hjl1 HBD HPN HPT HPL HIH
          by_cases hgt : z < y
          · have HE := Lib.hid (pbTo_new (rest := pb rs) (r := r) (u := u) (k := k) HF.out (by rw [← HZ.out, HOPT.out]; exact hgt))
            have hgtb : decide (y > z) = true := by simp; omega
            clear hgt
            go_wp2_with fail
            refine HC'.out.mono ?_
            rintro e w2 ⟨A2, c2, rfl, o2, b2⟩
            have HB2 := Lib.hid (HB.out.trans (b2.mono HB.out.size))
            have HLm := Lib.hid ((own_lit w2 [(k : Int)] (by simp)).base HB2.out.size)
            have HRj := Lib.hid ((o2.rd).below ((Below.refl _ w2).alloc (Nat.le_refl _) (.cells #[.int .i64 (k : Int)] 3)))
            have hsz : w.heap.size ≤ (w2.alloc (.cells #[.int .i64 (k : Int)] 3)).heap.size := Nat.le_trans HB2.out.size ((Below.refl _ w2).alloc (Nat.le_refl _) (.cells #[.int .i64 (k : Int)] 3)).size
            have HSZ := Lib.hid hsz
            clear o2 b2 hsz
            go_wp2_with (at_builtin; refine wpList_append_any rfl _ _ 23 Try.underlying23 rfl w.heap.size (some ⟨w2.heap.size, 0, none⟩) 1 [(k : Int)] 1 rfl rfl HLm.out A2 c2 (nl js) js.length (nl_len js) rfl HRj.out HN1.out HSZ.out ?_; intro A3 c3 w3 ho3 hg3)
            have HB3 := Lib.hid (((HB2.out.trans ((((Below.refl _ w2).alloc (Nat.le_refl _) (.cells #[.int .i64 (k : Int)] 3))).mono HB2.out.size))).grown hg3 HSZ.out (fun q e => by cases e; exact HB2.out.size))
            go_roundw
            case rel => exact ⟨k + 1, A3, c3, 1 + js.length, by omega, by go_num, by rw [HE.out, HOPT.out], rfl, Lib.hid (by rw [HE.out, HOPT.out, List.length_cons]; omega), Lib.hid (by rw [HE.out, HOPT.out]; exact ho3), HB3⟩
            case measure => simp [intOf]; omega
          · have HE := Lib.hid (pbTo_old (rest := pb rs) (r := r) (u := u) (k := k) HF.out (by rw [← HZ.out, HOPT.out]; exact hgt))
            have hgtb : decide (y > z) = false := by simp; omega
            clear hgt
            go_wp2_with fail
            refine HC'.out.mono ?_
            rintro e w2 ⟨A2, c2, rfl, _, b2⟩
            have HB2 := Lib.hid (HB.out.trans (b2.mono HB.out.size))
            have HO2 := Lib.hid (HO.out.below b2)
            clear b2
            go_wp2
            go_roundw
            case rel => exact ⟨k + 1, A1, c1, n, by omega, by go_num, by rw [HE.out, HZ.out], rfl, Lib.hid (by rw [HE.out]; exact HN.out), Lib.hid (by rw [HE.out]; exact HO2.out), HB2⟩
            case measure => simp [intOf]; omega

        · have hke2 : k = m + 1 := by omega
          have HEND : Hid (pb (r :: rs) u = pbTo (pb rs) r u k) := Lib.hid (by rw [pb, hrm, hke2])
          have hcr := (HB.out.cell (p := ⟨b, off + i, none⟩) (World.block_lt_of_cell? w _ hc)).trans hc
          clear hc
          have hkr : ¬ (k : Int) ≤ (r.length : Int) := by omega
          clear hke2 hke hkm hk1
          go_wp2
          go_ret2
          rw [HEND.out]
          exact ⟨A1, c1, by rw [← HN.out]; rfl, HO.out, HB.out⟩
end Go.Proofs.Ytpildecpabeanaa
