/-
  Chapter 9, the model: the bidders of a set, and what all things are worth to them.
-/
import Derived.Test.YtpildecpabeanaaG03
import Derived.Test.YtpildecpabeanaaG08
import Derived.Test.YtpildecpabeanaaG09
import Derived.Test.YtpildecpabeanaaG10
import Derived.Test.YtpildecpabeanaaG11
import Derived.Test.YtpildecpabeanaaG07
import Derived.Test.YtpildecpabeanaaG00
namespace Go.Proofs.Ytpildecpabeanaa
open Go.RowKit

/-- What a call hands back: rows, in a block of its own or none. -/
def NewRows (w : World) (rows : List (List Int)) (e : Ending) (w' : World) : Prop :=
  ∃ A c vs, e = .returned (.slice A rows.length c) ∧ w'.ownsRow w.heap.size 23 1 (.slice A rows.length c) rows.length vs ∧ RowsV w vs rows ∧ Below w.heap.size w w'
theorem rdr_of_row {w0 w : World} {B c n : Nat} {A : Option Addr} {vs : List Value} {rows : List (List Int)} (hn : rows.length = n) (ho : w.ownsRow B 23 1 (.slice A n c) n vs) (hv : RowsV w0 vs rows) (hb : Below w0.heap.size w0 w) : RdR w A c rows := by
  subst hn
  rcases ho.2 with ⟨h, h0⟩ | ⟨g, cap, cur, hvv, h5⟩
  · injection h with hA h1 h2
    subst hA h2
    rw [List.eq_nil_of_length_eq_zero h0]
    exact RdR.nil w
  · injection hvv with hA _ hc
    subst hA hc
    exact rdr_of_own ho hv hb
theorem RowsV.more {w : World} {vs : List Value} {rows : List (List Int)} {v : Value} {r : List Int} (h : RowsV w vs rows) (hv : Row1 w v r) : RowsV w (vs ++ [v]) (rows ++ [r]) := by
  refine ⟨by simp [h.1], fun k q hk => ?_⟩
  rcases Nat.lt_or_ge k rows.length with hl | hl
  · rw [List.getElem?_append_left hl] at hk
    obtain ⟨u, hu, hr⟩ := h.2 k q hk
    exact ⟨u, by rw [List.getElem?_append_left (by rw [h.1]; exact hl)]; exact hu, hr⟩
  · rw [List.getElem?_append_right hl] at hk
    obtain rfl : k = rows.length := by
      have := (List.getElem?_eq_some_iff.1 hk).1
      simp at this; omega
    simp at hk
    subst hk
    exact ⟨v, by rw [List.getElem?_append_right (by rw [h.1]; exact Nat.le_refl _), h.1]; simp, hv⟩
theorem rowv_shape {w : World} {B T sz n : Nat} {v : Value} {xs : List Value} (h : w.ownsRow B T sz v n xs) : ∃ A c, v = .slice A n c := by
  rcases h.2 with ⟨hv, hn⟩ | ⟨g, cap, cur, hv, _⟩
  · exact ⟨none, 0, by rw [hv, hn]⟩
  · exact ⟨_, _, hv⟩
theorem RowsV.nil (w : World) : RowsV w [] [] := ⟨rfl, fun k r hk => by simp at hk⟩
theorem ch_yes {ts : List (List Int)} {S k : Nat} {t : List Int} (h : ts[k]? = some t) (hb : S / 2 ^ k % 2 = 1) : ch (ts.take (k + 1)) S = ch (ts.take k) S ++ [t] := by rw [ch_take ts S k h, if_pos hb]
theorem ch_no {ts : List (List Int)} {S k : Nat} {t : List Int} (h : ts[k]? = some t) (hb : ¬ S / 2 ^ k % 2 = 1) : ch (ts.take (k + 1)) S = ch (ts.take k) S := by rw [ch_take ts S k h, if_neg hb]
theorem ch_len4 {ts : List (List Int)} (h : ts.length ≤ 4) (S k : Nat) : (ch (ts.take k) S).length ≤ 4 := by
  have h1 := ch_len (ts.take k) S
  rw [List.length_take] at h1
  omega

set_option maxHeartbeats 1000000 in
theorem Schosen_any (A : Option Addr) (c n S : Nat) (ts : List (List Int)) (w : World) (hn : ts.length = n) (h : RdR w A c ts) (h4 : n ≤ 4) (hS : S < 16) :
    Calls Try.prog 140 #[.slice A n c, .int .i64 (S : Int)] w (NewRows w (ch ts S)) := by
  have HBI : Hid (∀ (k : Nat), k < 4 → ∀ w1, Calls Try.prog 139 #[.int .i64 (S : Int), .int .i64 (k : Int)] w1 fun e w' => e = .returned (.int .i64 ((S / 2 ^ k % 2 : Nat) : Int)) ∧ w1 = w') := Lib.hid (fun k hk w1 => Sbit4_any S k hS hk w1)
  have H4 : Hid (∀ k, (ch (ts.take k) S).length ≤ 4) := Lib.hid (fun k => ch_len4 (by omega) S k)
  have HN := Lib.hid hn
  clear hn
  obtain ⟨i0, hi, hz0, hz1, hz2⟩ := info_parts intsU_info
  go_enter Try.func140, Try.ntmps140
  go_wp2_with fail
  go_loopw [5, 6] (fun v iv wr => ∃ (k m : Nat) (A1 : Option Addr) (c1 : Nat) (vs : List Value), k ≤ n ∧ iv = .int .i64 (k : Int) ∧ v = .slice A1 m c1 ∧ Hid (m = (ch (ts.take k) S).length) ∧ Hid (wr.ownsRow w.heap.size 23 1 (.slice A1 m c1) m vs) ∧ Hid (RowsV w vs (ch (ts.take k) S)) ∧ Hid (Below w.heap.size w wr)) (fun _ iv _ => n - (intOf iv).toNat)
  case atStart => exact ⟨0, 0, _, _, [], by omega, rfl, rfl, Lib.hid (by simp [ch]), Lib.hid (row_empty w), Lib.hid (by simp [ch]; exact RowsV.nil w), Lib.hid ((Below.refl _ w).alloc (Nat.le_refl _) _)⟩
  case round =>
    obtain ⟨k, m, A1, c1, vs, hk, rfl, rfl, HM, HO, HV, HB⟩ := hrel
    by_cases hlt : k < n
    · obtain ⟨b, off, t, A', c', rfl, ht, hc, hcap, hrd⟩ := (h.below HB.out).at_ (k := k) (by rw [HN.out]; exact hlt)
      have hc0 := h.at_ (k := k) (by rw [HN.out]; exact hlt)
      have hm4 : m ≤ 4 := by rw [HM.out]; exact H4.out k
      by_cases hb : S / 2 ^ k % 2 = 1
      · have HK := Lib.hid (HBI.out k (by omega))
        rw [hb] at HK
        have HCH := Lib.hid (ch_yes ht.out hb)
        have HR1 : Hid (Row1 w (.slice A' t.length c') t) := Lib.hid (by
          obtain ⟨b0, off0, t0, A0, c0, e0, ht0, hc0', hcap0, hrd0⟩ := hc0
          cases e0
          have e1 : t0 = t := by have h1 := ht0.out; rw [ht.out] at h1; cases h1; rfl
          subst e1
          have h2 := (HB.out.cell (p := ⟨b, off + k, none⟩) (World.block_lt_of_cell? w _ hc0')).trans hc0'
          rw [hc] at h2
          cases h2
          exact ⟨A', c', rfl, hcap0.out, hrd0.out⟩)
        have hSz : w.heap.size ≤ wr.heap.size + 1 := by have := HB.out.size; omega
        have HT := Lib.hid (own_len HO.out ((Below.refl _ wr).alloc (Nat.le_refl _) (.cells #[.slice A' t.length c'] 23)))
        have HBA : Hid (Below w.heap.size w (wr.alloc (.cells #[.slice A' t.length c'] 23))) := Lib.hid (HB.out.alloc HB.out.size _)
        have hb63 : m + 1 ≤ maxLen := by unfold maxLen; omega
        clear hc0 hb ht hcap hrd
        go_wp2_with (first
          | (go_at_call 139; refine (HK.out _).mono ?_; rintro e w1 ⟨rfl, rfl⟩)
          | (at_builtin; (refine wpList_append_own _ rfl _ _ 35 rfl w.heap.size 23 i0 (.slice none 0 0) 1 24 Try.underlying35 hi hz0 hz1 hz2 rfl (by decide) (.slice A1 m c1) m vs rfl HT.out ⟨wr.heap.size, 0, none⟩ 1 1 [.slice A' t.length c'] rfl rfl (cell_one_new _ _ _) (by simp [Value.oneCell']) hb63 (by omega) (by simpa using hSz) ?_; intro v5 w5 hown5 hg5 _)))
        obtain ⟨A5, c5, rfl⟩ := rowv_shape hown5
        have HO5 := Lib.hid hown5
        have HB5 : Hid (Below w.heap.size w w5) := Lib.hid (HBA.out.grown hg5 (by simpa using hSz) (fun q e => (World.ownsRow.lt HO.out q e).1))
        have HV5 : Hid (RowsV w (vs ++ [.slice A' t.length c']) (ch (ts.take (k + 1)) S)) := Lib.hid (by rw [HCH.out]; exact HV.out.more HR1.out)
        have HM5 : Hid (m + 1 = (ch (ts.take (k + 1)) S).length) := Lib.hid (by rw [HCH.out, List.length_append, ← HM.out]; rfl)
        clear hown5 hg5
        go_roundw
        case rel => exact ⟨k + 1, m + 1, A5, c5, _, hlt, by go_num, rfl, HM5, HO5, HV5, HB5⟩
        case measure => simp [intOf]; omega
      · have HK := Lib.hid (HBI.out k (by omega))
        have hb0 : S / 2 ^ k % 2 = 0 := by omega
        rw [hb0] at HK
        have HCH := Lib.hid (ch_no ht.out hb)
        clear hc0 hb hb0 ht hcap hrd
        go_wp2_with (go_at_call 139; refine (HK.out _).mono ?_; rintro e w1 ⟨rfl, rfl⟩)
        go_roundw
        case rel => exact ⟨k + 1, m, A1, c1, vs, hlt, by go_num, rfl, Lib.hid (by rw [HCH.out]; exact HM.out), HO, Lib.hid (by rw [HCH.out]; exact HV.out), HB⟩
        case measure => simp [intOf]; omega
    · obtain rfl : k = n := by omega
      have hm := HM.out
      have hv := HV.out
      rw [← HN.out, List.take_length] at hm hv
      subst hm
      have HV2 := Lib.hid hv
      clear hv HM HV
      go_wp2
      go_ret
      exact ⟨A1, c1, vs, rfl, HO.out, HV2.out, HB.out⟩

end Go.Proofs.Ytpildecpabeanaa

/-
  Chapter 9, the model: WorthWith, and what all things are worth to each set of bidders.
-/
namespace Go.Proofs.Ytpildecpabeanaa
open Go.RowKit

/-- What WorthWith tells. -/
noncomputable def wwB (ts : List (List Int)) (x : Int) : Int := if vtsB ts = true ∧ 0 ≤ x ∧ x < ((2 ^ ts.length : Nat) : Int) then ww ts x.toNat else -1
theorem pow_len {n : Nat} (h : n ≤ 4) : 1 ≤ 2 ^ n ∧ 2 ^ n ≤ 16 := ⟨Nat.pow_pos (by omega), Nat.pow_le_pow_right (n := 2) (by omega) h⟩

/-- What all things are worth to the bidders of a set: the calls. -/
theorem Sworth_any (n S : Nat) (ts : List (List Int)) (hn : ts.length = n) (h4 : n ≤ 4) (hv : ∀ t ∈ ts, VT t) (w0 w : World) (A1 : Option Addr) (c1 m : Nat) (vs : List Value) (hm : (ch ts S).length = m) (ho : w.ownsRow w0.heap.size 23 1 (.slice A1 m c1) m vs) (hvs : RowsV w0 vs (ch ts S)) (hb : Below w0.heap.size w0 w) :
    Calls Try.prog 126 #[.slice A1 m c1, .int .i64 7] w fun e w' => e = .returned (.int .i64 (ww ts S)) ∧ ∃ q, w' = w.drewN q := by
  have hr := rdr_of_row hm ho hvs hb
  subst hm
  exact SsplitValue_any (ch ts S) A1 c1 7 w hr (ch_vt hv S) (by have := ch_len ts S; omega) (by omega)

/-- The worths of the sets below k. -/
def wsF (ts : List (List Int)) (k : Nat) : List Int := vls (fun S => ww ts S) k

set_option maxHeartbeats 1000000 in
theorem SworthsOf_any (A : Option Addr) (c n : Nat) (ts : List (List Int)) (w : World) (hn : ts.length = n) (h : RdR w A c ts) (h4 : n ≤ 4) (hv : ∀ t ∈ ts, VT t) :
    Calls Try.prog 86 #[.slice A n c] w (ValsIs w (fun S => ww ts S) (2 ^ n)) := by
  have HP := Lib.hid (fun w1 => Spow4_any n (by omega) w1)
  have hp16 := pow_len (n := n) (by omega)
  have HCH := Lib.hid (fun (k : Nat) (w1 : World) (hk : k < 16) (hb : Below w.heap.size w w1) => Schosen_any A c n k ts w1 hn (h.below hb) h4 hk)
  have HJ := Lib.hid (fun (k : Nat) => Sworth_any n k ts hn h4 hv)
  obtain ⟨P, hP⟩ : ∃ P, P = 2 ^ n := ⟨_, rfl⟩
  rw [← hP] at HP hp16 ⊢
  clear hn h hv hP
  obtain ⟨f, hf⟩ : ∃ f : Nat → Int, f = (fun S => ww ts S) := ⟨_, rfl⟩
  rw [← hf]
  have HF : Hid (∀ S, ww ts S = f S) := Lib.hid (fun S => by rw [hf])
  clear hf
  go_enter Try.func86, Try.ntmps86
  go_wp2_with fail
  go_loopw [3, 4] (fun v iv wr => ∃ (k g1 c1 : Nat), k ≤ P ∧ iv = .int .i64 (k : Int) ∧ v = .slice (some ⟨g1, 0, none⟩) k c1 ∧ Hid (Own wr w.heap.size (some ⟨g1, 0, none⟩) c1 (vls f k)) ∧ Hid (Below w.heap.size w wr)) (fun _ iv _ => P - (intOf iv).toNat)
  case atStart => exact ⟨0, _, _, by omega, rfl, rfl, Lib.hid (own_new_ints w), Lib.hid ((Below.refl _ w).alloc (Nat.le_refl _) _)⟩
  case round =>
    obtain ⟨k, g1, c1, hk, rfl, rfl, HO, HB⟩ := hrel
    by_cases hlt : k < P
    · have HC1 := Lib.hid (HCH.out k wr (by omega) HB.out)
      have HJ1 := Lib.hid (HJ.out k)
      have HLL := Lib.hid (vls_len f k)
      have HMO := Lib.hid (vls_more f k)
      have hw := HF.out k
      rw [hw] at HJ1
      have hk1 : (k : Int) < (P : Int) := by omega
      clear hw
      go_wp2_with (first
        | (go_at_call 113; refine (HP.out _).mono ?_; rintro e w1 ⟨rfl, rfl⟩)
        | (go_at_call 140; refine HC1.out.mono ?_; rintro e w2 ⟨A2, c2, vs2, rfl, o2, v2, b2⟩)
        | (go_at_call 128; refine (Sall_any _).mono ?_; rintro e w3 ⟨rfl, rfl⟩)
        | (go_at_call 126; refine (HJ1.out _ _ A2 c2 _ vs2 rfl o2 v2 b2).mono ?_; rintro e w4 ⟨rfl, q, rfl⟩; have HB5 := Lib.hid (below_drewN' (HB.out.trans (b2.mono HB.out.size)) q); have HO5 := Lib.hid (((HO.out.below b2).drewN q).below ((Below.refl (w2.drewN q).heap.size (w2.drewN q)).alloc (Nat.le_refl _) (.cells #[.int .i64 (f k)] 3))); have HL5 := Lib.hid (own_lit (w2.drewN q) [f k] (by simp)).rd; have HSZ := Lib.hid (Nat.le_trans HB5.out.size ((Below.refl _ (w2.drewN q)).alloc (Nat.le_refl _) (.cells #[.int .i64 (f k)] 3)).size); clear b2 o2 v2)
        | (at_builtin; refine wpList_append_any rfl _ _ 23 Try.underlying23 rfl w.heap.size (some ⟨g1, 0, none⟩) c1 (vls f k) k HLL.out rfl HO5.out (some ⟨w2.heap.size, 0, none⟩) 1 [f k] 1 rfl rfl HL5.out (by omega) HSZ.out ?_; intro A6 c6 w6 ho6 hg6))
      have HB6 := Lib.hid (((HB5.out.trans ((((Below.refl _ (w2.drewN q)).alloc (Nat.le_refl _) (.cells #[.int .i64 (f k)] 3))).mono HB5.out.size))).grown hg6 HSZ.out (fun q e => by
        cases e
        exact (World.ownsRow.lt HO.out _ rfl).1))
      rw [← HMO.out] at ho6
      obtain ⟨g6, rfl⟩ := own_some ho6 (by rw [vls_len]; omega)
      go_roundw
      case rel => exact ⟨k + 1, g6, c6, hlt, by go_num, rfl, Lib.hid ho6, HB6⟩
      case measure => simp [intOf]; omega
    · obtain rfl : k = P := by omega
      go_wp2_with (go_at_call 113; refine (HP.out _).mono ?_; rintro e w1 ⟨rfl, rfl⟩)
      go_ret
      exact ⟨g1, c1, rfl, HO.out, HB.out⟩

end Go.Proofs.Ytpildecpabeanaa

/-
  Chapter 9, the program: what all things are worth to some bidders, and to each set of them.
-/
namespace Go.Proofs.Ytpildecpabeanaa
open Go.RowKit

theorem sh_bit {k : Nat} (hk : k ≤ 4) : wrap64 ((2 : Int) ^ k) = ((2 ^ k : Nat) : Int) := by
  have e : (2 : Int) ^ k = ((2 ^ k : Nat) : Int) := by simp
  have h := Nat.pow_le_pow_right (n := 2) (by omega) hk
  rw [e]
  generalize 2 ^ k = p at *
  exact IntWalk.wrap64_in (p : Int) ⟨by omega, by omega⟩
theorem and_bit {u k : Nat} (hu : u < 16) (hk : k < 4) : bits .and .i64 (u : Int) ((2 ^ k : Nat) : Int) = ((u / 2 ^ k % 2 * 2 ^ k : Nat) : Int) := by
  have : ∀ (u : Fin 16) (k : Fin 4), bits .and .i64 ((u.1 : Nat) : Int) ((2 ^ k.1 : Nat) : Int) = ((u.1 / 2 ^ k.1 % 2 * 2 ^ k.1 : Nat) : Int) := by decide +kernel
  exact this ⟨u, hu⟩ ⟨k, hk⟩
theorem and_ne {u k : Nat} (hu : u < 16) (hk : k < 4) : (bits .and .i64 (u : Int) (wrap64 ((2 : Int) ^ k)) != 0) = decide (u / 2 ^ k % 2 = 1) := by
  rw [sh_bit (by omega), and_bit hu hk]
  have : ∀ (u : Fin 16) (k : Fin 4), ((((u.1 / 2 ^ k.1 % 2 * 2 ^ k.1 : Nat) : Int)) != 0) = decide (u.1 / 2 ^ k.1 % 2 = 1) := by decide +kernel
  exact this ⟨u, hu⟩ ⟨k, hk⟩

set_option maxRecDepth 100000 in
set_option maxHeartbeats 1000000 in
theorem worthToSome_any (A : Option Addr) (c n S : Nat) (ts : List (List Int)) (w : World) (hn : ts.length = n) (h : RdR w A c ts) (h4 : n ≤ 4) (hS : S < 16) (hv : ∀ t ∈ ts, VT t) :
    Calls Try.prog 145 #[.slice A n c, .int .i64 (S : Int)] w fun e w' => e = .returned (.int .i64 (ww ts S)) ∧ Below w.heap.size w w' := by
  have HWW : Hid (ww ts S = T (jnAll (ch ts S)) 7) := Lib.hid (by unfold ww; rw [jnAll_at (fun t ht => (hv t (ch_mem ht)).2.1) (by omega)])
  have HJ := Lib.hid (fun (A : Option Addr) (c m : Nat) (w : World) (hm : (ch ts S).length = m) (h1 : RdR w A c (ch ts S)) => by
    have := joinedOf_gen A c (ch ts S) w h1 (by have := ch_len ts S; omega) (ch_vt hv S); rw [hm] at this; exact this)
  have H4 : Hid (∀ k, (ch (ts.take k) S).length ≤ 4) := Lib.hid (fun k => ch_len4 (by omega) S k)
  have HN := Lib.hid hn
  obtain ⟨l, hl⟩ : ∃ l, l = jnAll (ch ts S) := ⟨_, rfl⟩
  rw [← hl] at HWW HJ
  clear hn hl hv
  obtain ⟨i0, hi, hz0, hz1, hz2⟩ := info_parts intsU_info
  go_enter Try.func145, Try.ntmps145
  go_wp2_with fail
  go_loopw [5, 10] (fun v iv wr => ∃ (k m : Nat) (A1 : Option Addr) (c1 : Nat) (vs : List Value), k ≤ n ∧ iv = .int .i64 (k : Int) ∧ v = .slice A1 m c1 ∧ Hid (m = (ch (ts.take k) S).length) ∧ Hid (wr.ownsRow w.heap.size 23 1 (.slice A1 m c1) m vs) ∧ Hid (RowsV w vs (ch (ts.take k) S)) ∧ Hid (Below w.heap.size w wr)) (fun _ iv _ => n - (intOf iv).toNat)
  case atStart => exact ⟨0, 0, _, _, [], by omega, rfl, rfl, Lib.hid (by simp [ch]), Lib.hid (World.ownsRow_nil _ _ _ _), Lib.hid (by simp [ch]; exact RowsV.nil w), Lib.hid (Below.refl _ w)⟩
  case round =>
    obtain ⟨k, m, A1, c1, vs, hk, rfl, rfl, HM, HO, HV, HB⟩ := hrel
    by_cases hlt : k < n
    · obtain ⟨b, off, t, A', c', rfl, ht, hc, hcap, hrd⟩ := (h.below HB.out).at_ (k := k) (by rw [HN.out]; exact hlt)
      have hc0 := h.at_ (k := k) (by rw [HN.out]; exact hlt)
      have hm4 : m ≤ 4 := by rw [HM.out]; exact H4.out k
      have han := and_ne (u := S) (k := k) hS (by omega)
      by_cases hb : S / 2 ^ k % 2 = 1
      · rw [decide_eq_true hb] at han
        have HCH := Lib.hid (ch_yes ht.out hb)
        have HR1 : Hid (Row1 w (.slice A' t.length c') t) := Lib.hid (by
          obtain ⟨b0, off0, t0, A0, c0, e0, ht0, hc0', hcap0, hrd0⟩ := hc0
          cases e0
          have e1 : t0 = t := by have h1 := ht0.out; rw [ht.out] at h1; cases h1; rfl
          subst e1
          have h2 := (HB.out.cell (p := ⟨b, off + k, none⟩) (World.block_lt_of_cell? w _ hc0')).trans hc0'
          rw [hc] at h2
          cases h2
          exact ⟨A', c', rfl, hcap0.out, hrd0.out⟩)
        have hSz : w.heap.size ≤ wr.heap.size + 1 := by have := HB.out.size; omega
        have HT := Lib.hid (fun (q : Nat) => own_len HO.out ((below_drewN' (Below.refl _ wr) q).alloc (Nat.le_refl _) (.cells #[.slice A' t.length c'] 23)))
        have HBA : Hid (∀ q : Nat, Below w.heap.size w ((wr.drewN q).alloc (.cells #[.slice A' t.length c'] 23))) := Lib.hid (fun q => (below_drewN' HB.out q).alloc HB.out.size _)
        have hb63 : m + 1 ≤ maxLen := by unfold maxLen; omega
        have hkn : (k : Int) < (n : Int) := by omega
        clear hc0 hb ht hcap hrd
        go_wp2_with (at_builtin; (refine wpList_append_own _ rfl _ _ 35 rfl w.heap.size 23 i0 (.slice none 0 0) 1 24 Try.underlying35 hi hz0 hz1 hz2 rfl (by decide) (.slice A1 m c1) m vs rfl (HT.out 0) ⟨wr.heap.size, 0, none⟩ 1 1 [.slice A' t.length c'] rfl rfl (cell_one_new _ _ _) (by simp [Value.oneCell']) hb63 (by omega) (by simpa using hSz) ?_; intro v5 w5 hown5 hg5 _))
        obtain ⟨A5, c5, rfl⟩ := rowv_shape hown5
        have HO5 := Lib.hid hown5
        have HB5 : Hid (Below w.heap.size w w5) := Lib.hid ((HBA.out 0).grown hg5 (by simpa using hSz) (fun q e => (World.ownsRow.lt HO.out q e).1))
        have HV5 : Hid (RowsV w (vs ++ [.slice A' t.length c']) (ch (ts.take (k + 1)) S)) := Lib.hid (by rw [HCH.out]; exact HV.out.more HR1.out)
        have HM5 : Hid (m + 1 = (ch (ts.take (k + 1)) S).length) := Lib.hid (by rw [HCH.out, List.length_append, ← HM.out]; rfl)
        clear hown5 hg5
        go_roundw
        case rel => exact ⟨k + 1, m + 1, A5, c5, _, hlt, by go_num, rfl, HM5, HO5, HV5, HB5⟩
        case measure => simp [intOf]; omega
      · rw [decide_eq_false hb] at han
        have HCH := Lib.hid (ch_no ht.out hb)
        have hkn : (k : Int) < (n : Int) := by omega
        clear hc0 hb ht hcap hrd
        go_wp2
        go_roundw
        case rel => exact ⟨k + 1, m, A1, c1, vs, hlt, by go_num, rfl, Lib.hid (by rw [HCH.out]; exact HM.out), HO, Lib.hid (by rw [HCH.out]; exact HV.out), HB⟩
        case measure => simp [intOf]; omega
    · obtain rfl : k = n := by omega
      have hm := HM.out
      have hv := HV.out
      rw [← HN.out, List.take_length] at hm hv
      have HRD := Lib.hid (rdr_of_row hm.symm HO.out hv HB.out)
      have HJ1 := Lib.hid (HJ.out A1 c1 m wr hm.symm HRD.out)
      clear hv hm HM HV
      have hi7 := fun (w1 : World) => idx8 (T l) (k := 7) (by omega) w1
      simp only [show ((7 : Nat) : Int) = 7 from rfl] at hi7
      go_wp2_with (go_at_call 102; refine HJ1.out.mono ?_; rintro e w2 ⟨rfl, b2⟩; unfold ag8)
      go_ret
      exact ⟨by rw [HWW.out]; rfl, HB.out.trans (b2.mono HB.out.size)⟩

end Go.Proofs.Ytpildecpabeanaa

/-
  Chapter 9, the program: what bidders pay as a struct; what those of a set pay together.
-/
namespace Go.Proofs.Ytpildecpabeanaa
open Go.RowKit

/-- Payments as a value. -/
def pmV (p : Nat → Int) (s : Int) : Value := .agg #[.int .i64 (p 0), .int .i64 (p 1), .int .i64 (p 2), .int .i64 (p 3), .int .i64 s]
/-- What those of a set pay, of the first k. -/
def byF (p : Nat → Int) (S : Nat) : Nat → Int
  | 0 => 0
  | k + 1 => byF p S k + (if S / 2 ^ k % 2 = 1 then p k else 0)

theorem byF_bd {p : Nat → Int} (S : Nat) (hp : ∀ i, i < 4 → 0 ≤ p i ∧ p i ≤ 30) : ∀ k, k ≤ 4 → 0 ≤ byF p S k ∧ byF p S k ≤ 30 * k
  | 0, _ => by simp [byF]
  | k + 1, hk => by
    have h1 := byF_bd S hp k (by omega)
    have h2 := hp k (by omega)
    simp only [byF]
    split <;> omega
theorem nat4 {k : Nat} (h : k < 4) : k = 0 ∨ k = 1 ∨ k = 2 ∨ k = 3 := by omega

set_option maxHeartbeats 1000000 in
theorem by_any (p : Nat → Int) (s : Int) (S : Nat) (w : World) (hS : S < 16) (hp : ∀ i, i < 4 → 0 ≤ p i ∧ p i ≤ 30) :
    Calls Try.prog 134 #[pmV p s, .int .i64 (S : Int)] w fun e w' => e = .returned (.int .i64 (byF p S 4)) ∧ Below w.heap.size w w' := by
  have HBD := Lib.hid (byF_bd S hp)
  have HPB := Lib.hid hp
  have HCE : Hid (∀ k, k < 4 → (w.alloc (.cells #[.int .i64 (p 0), .int .i64 (p 1), .int .i64 (p 2), .int .i64 (p 3), .int .i64 s] 71)).cell? ⟨w.heap.size, k, none⟩ = some (.int .i64 (p k))) := Lib.hid (fun k hk => by
    rcases nat4 hk with rfl | rfl | rfl | rfl <;> simp)
  have HB : Hid (Below w.heap.size w (w.alloc (.cells #[.int .i64 (p 0), .int .i64 (p 1), .int .i64 (p 2), .int .i64 (p 3), .int .i64 s] 71))) := Lib.hid ((Below.refl _ w).alloc (Nat.le_refl _) _)
  clear hp
  unfold pmV
  go_enter Try.func134, Try.ntmps134
  go_wp2_with fail
  generalize w.alloc (.cells #[.int .i64 (p 0), .int .i64 (p 1), .int .i64 (p 2), .int .i64 (p 3), .int .i64 s] 71) = W at *
  go_loopw [5, 7] (fun pv iv wr => ∃ (k q : Nat), k ≤ 4 ∧ iv = .int .i64 (k : Int) ∧ pv = .int .i64 (byF p S k) ∧ wr = W.drewN q) (fun _ iv _ => 4 - (intOf iv).toNat)
  case atStart => exact ⟨0, 0, by omega, rfl, rfl, rfl⟩
  case round =>
    obtain ⟨k, q, hk, rfl, rfl, rfl⟩ := hrel
    by_cases hlt : k < 4
    · have han := and_ne (u := S) (k := k) hS hlt
      have hc := HCE.out k hlt
      have hk4 : (k : Int) < 4 := by omega
      have hk0 : (0 : Int) ≤ (k : Int) := by omega
      by_cases hb : S / 2 ^ k % 2 = 1
      · have HE : Hid (byF p S (k + 1) = byF p S k + p k) := Lib.hid (by simp only [byF]; rw [if_pos hb])
        rw [decide_eq_true hb] at han
        have h1 := HBD.out k (by omega)
        have h2 := HPB.out k hlt
        obtain ⟨x, hx⟩ : ∃ x, x = byF p S k := ⟨_, rfl⟩
        rw [← hx] at h1 HE ⊢
        obtain ⟨y, hy⟩ : ∃ y, y = p k := ⟨_, rfl⟩
        rw [← hy] at h2 HE hc
        have e1 : IntKind.i64.wrap (x + y) = x + y := IntWalk.i64_in _ (by omega)
        clear hx hy hb h1 h2
        go_wp2
        go_roundw
        case rel => exact ⟨k + 1, _, hlt, by go_num, by rw [HE.out], rfl⟩
        case measure => simp [intOf]; omega
      · have HE : Hid (byF p S (k + 1) = byF p S k) := Lib.hid (by simp only [byF]; rw [if_neg hb]; omega)
        rw [decide_eq_false hb] at han
        clear hb
        go_wp2
        go_roundw
        case rel => exact ⟨k + 1, _, hlt, by go_num, by rw [HE.out], rfl⟩
        case measure => simp [intOf]; omega
    · obtain rfl : k = 4 := by omega
      go_wp2
      go_ret
      exact ⟨rfl, below_drewN' HB.out q⟩

end Go.Proofs.Ytpildecpabeanaa

/-
  The program: the contracts of plus and of sumOf at ints.
-/
namespace Go.Proofs.Ytpildecpabeanaa
open Go.RowKit

theorem plusU_any (a b : Int) (w : World) (ha0 : -4611686018427387904 ≤ a) (ha1 : a ≤ 4611686018427387903) (hb0 : -4611686018427387904 ≤ b) (hb1 : b ≤ 4611686018427387903) :
    Calls Try.prog 136 #[.int .i64 a, .int .i64 b] w fun e w' => e = .returned (.int .i64 (a + b)) ∧ w = w' := by
  go_enter Try.func136, Try.ntmps136
  go_wp2
  go_ret
  exact ⟨rfl, rfl⟩

/-- Numbers of 0 .. 2 to 31. -/
def Some2 (xs : List Int) : Prop := ∀ x ∈ xs, 0 ≤ x ∧ x ≤ 2147483647
theorem some2_sum {xs : List Int} (h : Some2 xs) (k : Nat) : 0 ≤ (xs.take k).sum ∧ (xs.take k).sum ≤ 2147483647 * (k : Int) := by
  induction k with
  | zero => simp
  | succ k ih =>
    rw [List.take_add_one, List.sum_append]
    cases hx : xs[k]? with
    | none => simp; omega
    | some x => have := h x (List.mem_of_getElem? hx); simp; omega
theorem take_sum {xs : List Int} {k : Nat} {x : Int} (hx : xs[k]? = some x) : (xs.take (k + 1)).sum = (xs.take k).sum + x := by
  rw [List.take_add_one, hx]; simp

set_option maxHeartbeats 400000 in
theorem sumU_any (A : Option Addr) (c n : Nat) (s : Int) (xs : List Int) (w : World) (hn : xs.length = n) (hs : s = xs.sum) (h : Rd w A c xs) (hl : n ≤ 1048576) (h2 : Some2 xs) :
    Calls Try.prog 135 #[.func (.func 136) #[] #[], .int .i64 0, .slice A n c] w fun e w' => e = .returned (.int .i64 s) ∧ w = w' := by
  subst hn
  have HS := Lib.hid hs
  clear hs
  go_enter Try.func135, Try.ntmps135
  go_wp2
  go_loop [7, 13] (fun s i => ∃ k : Nat, k ≤ xs.length ∧ i = .int .i64 k ∧ ∃ t, s = .int .i64 t ∧ Hid (t = (xs.take k).sum)) (fun _ i => xs.length - (intOf i).toNat)
  case atStart => exact ⟨0, Nat.zero_le _, rfl, 0, rfl, Lib.hid (by simp)⟩
  case round =>
    obtain ⟨k, hk, rfl, t, rfl, HT⟩ := hrel
    by_cases hlt : k < xs.length
    · obtain ⟨b, off, x, rfl, _, hx, hc⟩ := h.at_ hlt
      have b1 := h2 x (List.mem_of_getElem? hx.out)
      have b2 := some2_sum h2 k
      rw [← HT.out] at b2
      have HT' := Lib.hid (take_sum hx.out)
      rw [← HT.out] at HT'
      go_wp2_with fail
      refine (plusU_any _ _ _ (by omega) (by omega) (by omega) (by omega)).mono ?_
      rintro e w' ⟨rfl, rfl⟩
      go_wp2
      go_round
      case rel => exact ⟨k + 1, by omega, by go_num, _, rfl, Lib.hid HT'.out.symm⟩
      case measure => simp [intOf]; omega
    · obtain rfl : k = xs.length := by omega
      have HE := Lib.hid (show t = s by rw [HT.out, HS.out, List.take_length])
      go_wp2
      go_ret
      exact ⟨by rw [HE.out]; rfl, rfl⟩

end Go.Proofs.Ytpildecpabeanaa
