/-
  Chapter 9, the model: the bidders of a set, and what all things are worth to them.
-/
import Derived.Test.YtccbjgajmjcpjabGJ
import Derived.Test.YtccbjgajmjcpjabWm
import Derived.Test.YtccbjgajmjcpjabGO
import Derived.Test.YtccbjgajmjcpjabRw
import Derived.Test.YtccbjgajmjcpjabZb
import Derived.Test.YtccbjgajmjcpjabWj
import Derived.Test.YtccbjgajmjcpjabGW
namespace Go.Proofs.Ytccbjgajmjcpjab
open Go.RowKit

/-- What a call hands back: rows, in a block of its own or none. -/
def NewRows (w : World) (rows : List (List Int)) (e : Ending) (w' : World) : Prop :=
  ∃ A c vs, e = .returned (.slice A rows.length c) ∧ w'.ownsRow w.heap.size 26 1 (.slice A rows.length c) rows.length vs ∧ RowsV w vs rows ∧ Below w.heap.size w w'
theorem rdr_of_row {w0 w : World} {B c n : Nat} {A : Option Addr} {vs : List Value} {rows : List (List Int)} (hn : rows.length = n) (ho : w.ownsRow B 26 1 (.slice A n c) n vs) (hv : RowsV w0 vs rows) (hb : Below w0.heap.size w0 w) : RdR w A c rows := by
  subst hn
  rcases ho.2 with ⟨h, h0⟩ | ⟨g, cap, cur, hvv, h5⟩
  · injection h with hA h1 h2
    subst hA h2
    rw [List.eq_nil_of_length_eq_zero h0]
    exact RdR.nil w
  · injection hvv with hA _ hc
    subst hA hc
    exact rdr_of_own ho hv hb
theorem RowsV.more {w : World} {vs : List Value} {rows : List (List Int)} {v : Value} {r : List Int} (h : RowsV w vs rows) (hv : Row1 w v r) : RowsV w (vs ++ [v]) (rows ++ [r]) := by
  refine ⟨by simp [h.1], fun k q hk => ?_⟩
  rcases Nat.lt_or_ge k rows.length with hl | hl
  · rw [List.getElem?_append_left hl] at hk
    obtain ⟨u, hu, hr⟩ := h.2 k q hk
    exact ⟨u, by rw [List.getElem?_append_left (by rw [h.1]; exact hl)]; exact hu, hr⟩
  · rw [List.getElem?_append_right hl] at hk
    obtain rfl : k = rows.length := by
      have := (List.getElem?_eq_some_iff.1 hk).1
      simp at this; omega
    simp at hk
    subst hk
    exact ⟨v, by rw [List.getElem?_append_right (by rw [h.1]; exact Nat.le_refl _), h.1]; simp, hv⟩
theorem rowv_shape {w : World} {B T sz n : Nat} {v : Value} {xs : List Value} (h : w.ownsRow B T sz v n xs) : ∃ A c, v = .slice A n c := by
  rcases h.2 with ⟨hv, hn⟩ | ⟨g, cap, cur, hv, _⟩
  · exact ⟨none, 0, by rw [hv, hn]⟩
  · exact ⟨_, _, hv⟩
theorem RowsV.nil (w : World) : RowsV w [] [] := ⟨rfl, fun k r hk => by simp at hk⟩
theorem ch_yes {ts : List (List Int)} {S k : Nat} {t : List Int} (h : ts[k]? = some t) (hb : S / 2 ^ k % 2 = 1) : ch (ts.take (k + 1)) S = ch (ts.take k) S ++ [t] := by rw [ch_take ts S k h, if_pos hb]
theorem ch_no {ts : List (List Int)} {S k : Nat} {t : List Int} (h : ts[k]? = some t) (hb : ¬ S / 2 ^ k % 2 = 1) : ch (ts.take (k + 1)) S = ch (ts.take k) S := by rw [ch_take ts S k h, if_neg hb]
theorem ch_len4 {ts : List (List Int)} (h : ts.length ≤ 4) (S k : Nat) : (ch (ts.take k) S).length ≤ 4 := by
  have h1 := ch_len (ts.take k) S
  rw [List.length_take] at h1
  omega

set_option maxHeartbeats 1000000 in
theorem Schosen_any (A : Option Addr) (c n S : Nat) (ts : List (List Int)) (w : World) (hn : ts.length = n) (h : RdR w A c ts) (h4 : n ≤ 4) (hS : S < 16) :
    Calls Try.prog 125 #[.slice A n c, .int .i64 (S : Int)] w (NewRows w (ch ts S)) := by
  have HBI : Hid (∀ (k : Nat), k < 4 → ∀ w1, Calls Try.prog 159 #[.int .i64 (S : Int), .int .i64 (k : Int)] w1 fun e w' => e = .returned (.int .i64 ((S / 2 ^ k % 2 : Nat) : Int)) ∧ w1 = w') := Lib.hid (fun k hk w1 => Sbit4_any S k hS hk w1)
  have H4 : Hid (∀ k, (ch (ts.take k) S).length ≤ 4) := Lib.hid (fun k => ch_len4 (by omega) S k)
  have HN := Lib.hid hn
  clear hn
  obtain ⟨i0, hi, hz0, hz1, hz2⟩ := info_parts intsU_info
  go_enter Try.func125, Try.ntmps125
  go_wp2_with fail
  go_loopw [5, 6] (fun v iv wr => ∃ (k m : Nat) (A1 : Option Addr) (c1 : Nat) (vs : List Value), k ≤ n ∧ iv = .int .i64 (k : Int) ∧ v = .slice A1 m c1 ∧ Hid (m = (ch (ts.take k) S).length) ∧ Hid (wr.ownsRow w.heap.size 26 1 (.slice A1 m c1) m vs) ∧ Hid (RowsV w vs (ch (ts.take k) S)) ∧ Hid (Below w.heap.size w wr)) (fun _ iv _ => n - (intOf iv).toNat)
  case atStart => exact ⟨0, 0, _, _, [], by omega, rfl, rfl, Lib.hid (by simp [ch]), Lib.hid (row_empty w), Lib.hid (by simp [ch]; exact RowsV.nil w), Lib.hid ((Below.refl _ w).alloc (Nat.le_refl _) _)⟩
  case round =>
    obtain ⟨k, m, A1, c1, vs, hk, rfl, rfl, HM, HO, HV, HB⟩ := hrel
    by_cases hlt : k < n
    · obtain ⟨b, off, t, A', c', rfl, ht, hc, hcap, hrd⟩ := (h.below HB.out).at_ (k := k) (by rw [HN.out]; exact hlt)
      have hc0 := h.at_ (k := k) (by rw [HN.out]; exact hlt)
      have hm4 : m ≤ 4 := by rw [HM.out]; exact H4.out k
      by_cases hb : S / 2 ^ k % 2 = 1
      · have HK := Lib.hid (HBI.out k (by omega))
        rw [hb] at HK
        have HCH := Lib.hid (ch_yes ht.out hb)
        have HR1 : Hid (Row1 w (.slice A' t.length c') t) := Lib.hid (by
          obtain ⟨b0, off0, t0, A0, c0, e0, ht0, hc0', hcap0, hrd0⟩ := hc0
          cases e0
          have e1 : t0 = t := by have h1 := ht0.out; rw [ht.out] at h1; cases h1; rfl
          subst e1
          have h2 := (HB.out.cell (p := ⟨b, off + k, none⟩) (World.block_lt_of_cell? w _ hc0')).trans hc0'
          rw [hc] at h2
          cases h2
          exact ⟨A', c', rfl, hcap0.out, hrd0.out⟩)
        have hSz : w.heap.size ≤ wr.heap.size + 1 := by have := HB.out.size; omega
        have HT := Lib.hid (own_len HO.out ((Below.refl _ wr).alloc (Nat.le_refl _) (.cells #[.slice A' t.length c'] 26)))
        have HBA : Hid (Below w.heap.size w (wr.alloc (.cells #[.slice A' t.length c'] 26))) := Lib.hid (HB.out.alloc HB.out.size _)
        have hb63 : m + 1 ≤ maxLen := by unfold maxLen; omega
        clear hc0 hb ht hcap hrd
        go_wp2_with (first
          | (go_at_call 159; refine (HK.out _).mono ?_; rintro e w1 ⟨rfl, rfl⟩)
          | (at_builtin; (refine wpList_append_own _ rfl _ _ 23 rfl w.heap.size 26 i0 (.slice none 0 0) 1 24 Try.underlying23 hi hz0 hz1 hz2 rfl (by decide) (.slice A1 m c1) m vs rfl HT.out ⟨wr.heap.size, 0, none⟩ 1 1 [.slice A' t.length c'] rfl rfl (cell_one_new _ _ _) (by simp [Value.oneCell']) hb63 (by omega) (by simpa using hSz) ?_; intro v5 w5 hown5 hg5 _)))
        obtain ⟨A5, c5, rfl⟩ := rowv_shape hown5
        have HO5 := Lib.hid hown5
        have HB5 : Hid (Below w.heap.size w w5) := Lib.hid (HBA.out.grown hg5 (by simpa using hSz) (fun q e => (World.ownsRow.lt HO.out q e).1))
        have HV5 : Hid (RowsV w (vs ++ [.slice A' t.length c']) (ch (ts.take (k + 1)) S)) := Lib.hid (by rw [HCH.out]; exact HV.out.more HR1.out)
        have HM5 : Hid (m + 1 = (ch (ts.take (k + 1)) S).length) := Lib.hid (by rw [HCH.out, List.length_append, ← HM.out]; rfl)
        clear hown5 hg5
        go_roundw
        case rel => exact ⟨k + 1, m + 1, A5, c5, _, hlt, by go_num, rfl, HM5, HO5, HV5, HB5⟩
        case measure => simp [intOf]; omega
      · have HK := Lib.hid (HBI.out k (by omega))
        have hb0 : S / 2 ^ k % 2 = 0 := by omega
        rw [hb0] at HK
        have HCH := Lib.hid (ch_no ht.out hb)
        clear hc0 hb hb0 ht hcap hrd
        go_wp2_with (go_at_call 159; refine (HK.out _).mono ?_; rintro e w1 ⟨rfl, rfl⟩)
        go_roundw
        case rel => exact ⟨k + 1, m, A1, c1, vs, hlt, by go_num, rfl, Lib.hid (by rw [HCH.out]; exact HM.out), HO, Lib.hid (by rw [HCH.out]; exact HV.out), HB⟩
        case measure => simp [intOf]; omega
    · obtain rfl : k = n := by omega
      have hm := HM.out
      have hv := HV.out
      rw [← HN.out, List.take_length] at hm hv
      subst hm
      have HV2 := Lib.hid hv
      clear hv HM HV
      go_wp2
      go_ret
      exact ⟨A1, c1, vs, rfl, HO.out, HV2.out, HB.out⟩

end Go.Proofs.Ytccbjgajmjcpjab

/-
  Chapter 9, the model: WorthWith, and what all things are worth to each set of bidders.
-/
namespace Go.Proofs.Ytccbjgajmjcpjab
open Go.RowKit

/-- What WorthWith tells. -/
noncomputable def wwB (ts : List (List Int)) (x : Int) : Int := if vtsB ts = true ∧ 0 ≤ x ∧ x < ((2 ^ ts.length : Nat) : Int) then ww ts x.toNat else -1
theorem pow_len {n : Nat} (h : n ≤ 4) : 1 ≤ 2 ^ n ∧ 2 ^ n ≤ 16 := ⟨Nat.pow_pos (by omega), Nat.pow_le_pow_right (n := 2) (by omega) h⟩

/-- What all things are worth to the bidders of a set: the calls. -/
theorem Sworth_any (n S : Nat) (ts : List (List Int)) (hn : ts.length = n) (h4 : n ≤ 4) (hv : ∀ t ∈ ts, VT t) (w0 w : World) (A1 : Option Addr) (c1 m : Nat) (vs : List Value) (hm : (ch ts S).length = m) (ho : w.ownsRow w0.heap.size 26 1 (.slice A1 m c1) m vs) (hvs : RowsV w0 vs (ch ts S)) (hb : Below w0.heap.size w0 w) :
    Calls Try.prog 112 #[.slice A1 m c1, .int .i64 7] w fun e w' => e = .returned (.int .i64 (ww ts S)) ∧ ∃ q, w' = w.drewN q := by
  have hr := rdr_of_row hm ho hvs hb
  subst hm
  exact SsplitValue_any (ch ts S) A1 c1 7 w hr (ch_vt hv S) (by have := ch_len ts S; omega) (by omega)

set_option maxHeartbeats 1000000 in
theorem SWorthWith_any (A : Option Addr) (c : Nat) (ts : List (List Int)) (x : Int) (w : World) (h : RdR w A c ts) (hl : ts.length ≤ 1099511627776) (hl2 : ∀ r ∈ ts, r.length ≤ 1099511627776) :
    Calls Try.prog 57 #[.slice A ts.length c, .int .i64 x] w fun e w' => e = .returned (.int .i64 (wwB ts x)) ∧ Below w.heap.size w w' := by
  have HC := Lib.hid (SvalidTables_any A c ts w h hl hl2)
  rcases hb : vtsB ts with _ | _
  · have HE : Hid (wwB ts x = -1) := Lib.hid (by unfold wwB; rw [hb]; simp)
    rw [hb] at HC
    clear hb
    go_enter Try.func57, Try.ntmps57
    go_wp2_with (go_at_call 70; refine HC.out.mono ?_; rintro e w1 ⟨rfl, n, rfl⟩)
    go_ret
    exact ⟨by rw [HE.out]; rfl, below_drewN' (Below.refl _ _) n⟩
  · rw [hb] at HC
    have hv := vtsB_iff.1 hb
    have h4 := hv.1.2
    obtain ⟨n, hn⟩ : ∃ n, n = ts.length := ⟨_, rfl⟩
    have HP := Lib.hid (fun w1 => Spow4_any n (by omega) w1)
    obtain ⟨P, hP⟩ : ∃ P, P = 2 ^ n := ⟨_, rfl⟩
    have hp16 := pow_len (n := n) (by omega)
    rw [← hP] at HP hp16
    have HWB : Hid (wwB ts x = if 0 ≤ x ∧ x < (P : Int) then ww ts x.toNat else -1) := Lib.hid (by unfold wwB; rw [hb, hP, hn]; simp)
    rw [← hn] at h4 HC ⊢
    clear hP
    by_cases hx : 0 ≤ x ∧ x < (P : Int)
    · obtain ⟨s, rfl⟩ : ∃ s : Nat, x = (s : Int) := ⟨x.toNat, by omega⟩
      have HE : Hid (wwB ts (s : Int) = ww ts s) := Lib.hid (by rw [HWB.out, if_pos hx]; rfl)
      have HR : Hid (∀ w1, Calls Try.prog 115 #[.int .i64 (s : Int), .int .i64 0, .int .i64 ((P : Int) - 1)] w1 fun e w' => e = .returned (.bool true) ∧ w1 = w') := Lib.hid (fun w1 => by have := inRange_any s 0 ((P : Int) - 1) w1; rwa [inR_true.2 ⟨hx.1, by omega⟩] at this)
      have HCH := Lib.hid (fun (q : Nat) => Schosen_any A c n s ts (w.drewN q) hn.symm (h.drewN q) h4 (by omega))
      have HJ := Lib.hid (Sworth_any n s ts hn.symm h4 hv.2)
      clear hb hv hx HWB hn
      go_enter Try.func57, Try.ntmps57
      go_wp2_with (first
        | (go_at_call 70; refine HC.out.mono ?_; rintro e w1 ⟨rfl, n, rfl⟩)
        | (go_at_call 124; refine (HP.out _).mono ?_; rintro e w1 ⟨rfl, rfl⟩)
        | (go_at_call 115; refine (HR.out _).mono ?_; rintro e w1 ⟨rfl, rfl⟩)
        | (go_at_call 125; refine (HCH.out _).mono ?_; rintro e w2 ⟨A2, c2, vs2, rfl, o2, v2, b2⟩)
        | (go_at_call 113; refine (Sall_any _).mono ?_; rintro e w3 ⟨rfl, rfl⟩)
        | (go_at_call 112; refine (HJ.out _ _ A2 c2 _ vs2 rfl o2 v2 b2).mono ?_; rintro e w4 ⟨rfl, q, rfl⟩))
      go_ret
      exact ⟨by rw [HE.out]; rfl, below_drewN' (Below.trans (below_drewN' (Below.refl _ _) n) (b2.mono (Nat.le_refl _))) q⟩
    · have HE : Hid (wwB ts x = -1) := Lib.hid (by rw [HWB.out, if_neg hx])
      have HR : Hid (∀ w1, Calls Try.prog 115 #[.int .i64 x, .int .i64 0, .int .i64 ((P : Int) - 1)] w1 fun e w' => e = .returned (.bool false) ∧ w1 = w') := Lib.hid (fun w1 => by have := inRange_any x 0 ((P : Int) - 1) w1; rwa [inR_false.2 (fun h => hx ⟨h.1, by omega⟩)] at this)
      clear hb hv hx HWB hn
      go_enter Try.func57, Try.ntmps57
      go_wp2_with (first
        | (go_at_call 70; refine HC.out.mono ?_; rintro e w1 ⟨rfl, n, rfl⟩)
        | (go_at_call 124; refine (HP.out _).mono ?_; rintro e w1 ⟨rfl, rfl⟩)
        | (go_at_call 115; refine (HR.out _).mono ?_; rintro e w1 ⟨rfl, rfl⟩))
      go_ret
      exact ⟨by rw [HE.out]; rfl, below_drewN' (Below.refl _ _) n⟩

/-- The worths of the sets below k. -/
def wsF (ts : List (List Int)) (k : Nat) : List Int := vls (fun S => ww ts S) k

set_option maxHeartbeats 1000000 in
theorem SworthsOf_any (A : Option Addr) (c n : Nat) (ts : List (List Int)) (w : World) (hn : ts.length = n) (h : RdR w A c ts) (h4 : n ≤ 4) (hv : ∀ t ∈ ts, VT t) :
    Calls Try.prog 131 #[.slice A n c] w (ValsIs w (fun S => ww ts S) (2 ^ n)) := by
  have HP := Lib.hid (fun w1 => Spow4_any n (by omega) w1)
  have hp16 := pow_len (n := n) (by omega)
  have HCH := Lib.hid (fun (k : Nat) (w1 : World) (hk : k < 16) (hb : Below w.heap.size w w1) => Schosen_any A c n k ts w1 hn (h.below hb) h4 hk)
  have HJ := Lib.hid (fun (k : Nat) => Sworth_any n k ts hn h4 hv)
  obtain ⟨P, hP⟩ : ∃ P, P = 2 ^ n := ⟨_, rfl⟩
  rw [← hP] at HP hp16 ⊢
  clear hn h hv hP
  obtain ⟨f, hf⟩ : ∃ f : Nat → Int, f = (fun S => ww ts S) := ⟨_, rfl⟩
  rw [← hf]
  have HF : Hid (∀ S, ww ts S = f S) := Lib.hid (fun S => by rw [hf])
  clear hf
  go_enter Try.func131, Try.ntmps131
  go_wp2_with fail
  go_loopw [3, 4] (fun v iv wr => ∃ (k g1 c1 : Nat), k ≤ P ∧ iv = .int .i64 (k : Int) ∧ v = .slice (some ⟨g1, 0, none⟩) k c1 ∧ Hid (Own wr w.heap.size (some ⟨g1, 0, none⟩) c1 (vls f k)) ∧ Hid (Below w.heap.size w wr)) (fun _ iv _ => P - (intOf iv).toNat)
  case atStart => exact ⟨0, _, _, by omega, rfl, rfl, Lib.hid (own_new_ints w), Lib.hid ((Below.refl _ w).alloc (Nat.le_refl _) _)⟩
  case round =>
    obtain ⟨k, g1, c1, hk, rfl, rfl, HO, HB⟩ := hrel
    by_cases hlt : k < P
    · have HC1 := Lib.hid (HCH.out k wr (by omega) HB.out)
      have HJ1 := Lib.hid (HJ.out k)
      have HLL := Lib.hid (vls_len f k)
      have HMO := Lib.hid (vls_more f k)
      have hw := HF.out k
      rw [hw] at HJ1
      have hk1 : (k : Int) < (P : Int) := by omega
      clear hw
      go_wp2_with (first
        | (go_at_call 124; refine (HP.out _).mono ?_; rintro e w1 ⟨rfl, rfl⟩)
        | (go_at_call 125; refine HC1.out.mono ?_; rintro e w2 ⟨A2, c2, vs2, rfl, o2, v2, b2⟩)
        | (go_at_call 113; refine (Sall_any _).mono ?_; rintro e w3 ⟨rfl, rfl⟩)
        | (go_at_call 112; refine (HJ1.out _ _ A2 c2 _ vs2 rfl o2 v2 b2).mono ?_; rintro e w4 ⟨rfl, q, rfl⟩; have HB5 := Lib.hid (below_drewN' (HB.out.trans (b2.mono HB.out.size)) q); have HO5 := Lib.hid (((HO.out.below b2).drewN q).below ((Below.refl (w2.drewN q).heap.size (w2.drewN q)).alloc (Nat.le_refl _) (.cells #[.int .i64 (f k)] 3))); have HL5 := Lib.hid (own_lit (w2.drewN q) [f k] (by simp)).rd; have HSZ := Lib.hid (Nat.le_trans HB5.out.size ((Below.refl _ (w2.drewN q)).alloc (Nat.le_refl _) (.cells #[.int .i64 (f k)] 3)).size); clear b2 o2 v2)
        | (at_builtin; refine wpList_append_any rfl _ _ 26 Try.underlying26 rfl w.heap.size (some ⟨g1, 0, none⟩) c1 (vls f k) k HLL.out rfl HO5.out (some ⟨w2.heap.size, 0, none⟩) 1 [f k] 1 rfl rfl HL5.out (by omega) HSZ.out ?_; intro A6 c6 w6 ho6 hg6))
      have HB6 := Lib.hid (((HB5.out.trans ((((Below.refl _ (w2.drewN q)).alloc (Nat.le_refl _) (.cells #[.int .i64 (f k)] 3))).mono HB5.out.size))).grown hg6 HSZ.out (fun q e => by
        cases e
        exact (World.ownsRow.lt HO.out _ rfl).1))
      rw [← HMO.out] at ho6
      obtain ⟨g6, rfl⟩ := own_some ho6 (by rw [vls_len]; omega)
      go_roundw
      case rel => exact ⟨k + 1, g6, c6, hlt, by go_num, rfl, Lib.hid ho6, HB6⟩
      case measure => simp [intOf]; omega
    · obtain rfl : k = P := by omega
      go_wp2_with (go_at_call 124; refine (HP.out _).mono ?_; rintro e w1 ⟨rfl, rfl⟩)
      go_ret
      exact ⟨g1, c1, rfl, HO.out, HB.out⟩

end Go.Proofs.Ytccbjgajmjcpjab

/-
  Chapter 9, the program: what all things are worth to some bidders, and to each set of them.
-/
namespace Go.Proofs.Ytccbjgajmjcpjab
open Go.RowKit

theorem sh_bit {k : Nat} (hk : k ≤ 4) : wrap64 ((2 : Int) ^ k) = ((2 ^ k : Nat) : Int) := by
  have e : (2 : Int) ^ k = ((2 ^ k : Nat) : Int) := by simp
  have h := Nat.pow_le_pow_right (n := 2) (by omega) hk
  rw [e]
  generalize 2 ^ k = p at *
  exact IntWalk.wrap64_in (p : Int) ⟨by omega, by omega⟩
theorem and_bit {u k : Nat} (hu : u < 16) (hk : k < 4) : bits .and .i64 (u : Int) ((2 ^ k : Nat) : Int) = ((u / 2 ^ k % 2 * 2 ^ k : Nat) : Int) := by
  have : ∀ (u : Fin 16) (k : Fin 4), bits .and .i64 ((u.1 : Nat) : Int) ((2 ^ k.1 : Nat) : Int) = ((u.1 / 2 ^ k.1 % 2 * 2 ^ k.1 : Nat) : Int) := by decide +kernel
  exact this ⟨u, hu⟩ ⟨k, hk⟩
theorem and_ne {u k : Nat} (hu : u < 16) (hk : k < 4) : (bits .and .i64 (u : Int) (wrap64 ((2 : Int) ^ k)) != 0) = decide (u / 2 ^ k % 2 = 1) := by
  rw [sh_bit (by omega), and_bit hu hk]
  have : ∀ (u : Fin 16) (k : Fin 4), ((((u.1 / 2 ^ k.1 % 2 * 2 ^ k.1 : Nat) : Int)) != 0) = decide (u.1 / 2 ^ k.1 % 2 = 1) := by decide +kernel
  exact this ⟨u, hu⟩ ⟨k, hk⟩

set_option maxRecDepth 100000 in
set_option maxHeartbeats 1000000 in
theorem worthToSome_any (A : Option Addr) (c n S : Nat) (ts : List (List Int)) (w : World) (hn : ts.length = n) (h : RdR w A c ts) (h4 : n ≤ 4) (hS : S < 16) (hv : ∀ t ∈ ts, VT t) :
    Calls Try.prog 126 #[.slice A n c, .int .i64 (S : Int)] w fun e w' => e = .returned (.int .i64 (ww ts S)) ∧ Below w.heap.size w w' := by
  have HWW : Hid (ww ts S = T (jnAll (ch ts S)) 7) := Lib.hid (by unfold ww; rw [jnAll_at (fun t ht => (hv t (ch_mem ht)).2.1) (by omega)])
  have HJ := Lib.hid (fun (A : Option Addr) (c m : Nat) (w : World) (hm : (ch ts S).length = m) (h1 : RdR w A c (ch ts S)) => by
    have := joinedOf_gen A c (ch ts S) w h1 (by have := ch_len ts S; omega) (ch_vt hv S); rw [hm] at this; exact this)
  have H4 : Hid (∀ k, (ch (ts.take k) S).length ≤ 4) := Lib.hid (fun k => ch_len4 (by omega) S k)
  have HN := Lib.hid hn
  obtain ⟨l, hl⟩ : ∃ l, l = jnAll (ch ts S) := ⟨_, rfl⟩
  rw [← hl] at HWW HJ
  clear hn hl hv
  obtain ⟨i0, hi, hz0, hz1, hz2⟩ := info_parts intsU_info
  go_enter Try.func126, Try.ntmps126
  go_wp2_with fail
  go_loopw [5, 10] (fun v iv wr => ∃ (k m : Nat) (A1 : Option Addr) (c1 : Nat) (vs : List Value), k ≤ n ∧ iv = .int .i64 (k : Int) ∧ v = .slice A1 m c1 ∧ Hid (m = (ch (ts.take k) S).length) ∧ Hid (wr.ownsRow w.heap.size 26 1 (.slice A1 m c1) m vs) ∧ Hid (RowsV w vs (ch (ts.take k) S)) ∧ Hid (Below w.heap.size w wr)) (fun _ iv _ => n - (intOf iv).toNat)
  case atStart => exact ⟨0, 0, _, _, [], by omega, rfl, rfl, Lib.hid (by simp [ch]), Lib.hid (World.ownsRow_nil _ _ _ _), Lib.hid (by simp [ch]; exact RowsV.nil w), Lib.hid (Below.refl _ w)⟩
  case round =>
    obtain ⟨k, m, A1, c1, vs, hk, rfl, rfl, HM, HO, HV, HB⟩ := hrel
    by_cases hlt : k < n
    · obtain ⟨b, off, t, A', c', rfl, ht, hc, hcap, hrd⟩ := (h.below HB.out).at_ (k := k) (by rw [HN.out]; exact hlt)
      have hc0 := h.at_ (k := k) (by rw [HN.out]; exact hlt)
      have hm4 : m ≤ 4 := by rw [HM.out]; exact H4.out k
      have han := and_ne (u := S) (k := k) hS (by omega)
      by_cases hb : S / 2 ^ k % 2 = 1
      · rw [decide_eq_true hb] at han
        have HCH := Lib.hid (ch_yes ht.out hb)
        have HR1 : Hid (Row1 w (.slice A' t.length c') t) := Lib.hid (by
          obtain ⟨b0, off0, t0, A0, c0, e0, ht0, hc0', hcap0, hrd0⟩ := hc0
          cases e0
          have e1 : t0 = t := by have h1 := ht0.out; rw [ht.out] at h1; cases h1; rfl
          subst e1
          have h2 := (HB.out.cell (p := ⟨b, off + k, none⟩) (World.block_lt_of_cell? w _ hc0')).trans hc0'
          rw [hc] at h2
          cases h2
          exact ⟨A', c', rfl, hcap0.out, hrd0.out⟩)
        have hSz : w.heap.size ≤ wr.heap.size + 1 := by have := HB.out.size; omega
        have HT := Lib.hid (fun (q : Nat) => own_len HO.out ((below_drewN' (Below.refl _ wr) q).alloc (Nat.le_refl _) (.cells #[.slice A' t.length c'] 26)))
        have HBA : Hid (∀ q : Nat, Below w.heap.size w ((wr.drewN q).alloc (.cells #[.slice A' t.length c'] 26))) := Lib.hid (fun q => (below_drewN' HB.out q).alloc HB.out.size _)
        have hb63 : m + 1 ≤ maxLen := by unfold maxLen; omega
        have hkn : (k : Int) < (n : Int) := by omega
        clear hc0 hb ht hcap hrd
        go_wp2_with (at_builtin; (refine wpList_append_own _ rfl _ _ 23 rfl w.heap.size 26 i0 (.slice none 0 0) 1 24 Try.underlying23 hi hz0 hz1 hz2 rfl (by decide) (.slice A1 m c1) m vs rfl (HT.out 0) ⟨wr.heap.size, 0, none⟩ 1 1 [.slice A' t.length c'] rfl rfl (cell_one_new _ _ _) (by simp [Value.oneCell']) hb63 (by omega) (by simpa using hSz) ?_; intro v5 w5 hown5 hg5 _))
        obtain ⟨A5, c5, rfl⟩ := rowv_shape hown5
        have HO5 := Lib.hid hown5
        have HB5 : Hid (Below w.heap.size w w5) := Lib.hid ((HBA.out 0).grown hg5 (by simpa using hSz) (fun q e => (World.ownsRow.lt HO.out q e).1))
        have HV5 : Hid (RowsV w (vs ++ [.slice A' t.length c']) (ch (ts.take (k + 1)) S)) := Lib.hid (by rw [HCH.out]; exact HV.out.more HR1.out)
        have HM5 : Hid (m + 1 = (ch (ts.take (k + 1)) S).length) := Lib.hid (by rw [HCH.out, List.length_append, ← HM.out]; rfl)
        clear hown5 hg5
        go_roundw
        case rel => exact ⟨k + 1, m + 1, A5, c5, _, hlt, by go_num, rfl, HM5, HO5, HV5, HB5⟩
        case measure => simp [intOf]; omega
      · rw [decide_eq_false hb] at han
        have HCH := Lib.hid (ch_no ht.out hb)
        have hkn : (k : Int) < (n : Int) := by omega
        clear hc0 hb ht hcap hrd
        go_wp2
        go_roundw
        case rel => exact ⟨k + 1, m, A1, c1, vs, hlt, by go_num, rfl, Lib.hid (by rw [HCH.out]; exact HM.out), HO, Lib.hid (by rw [HCH.out]; exact HV.out), HB⟩
        case measure => simp [intOf]; omega
    · obtain rfl : k = n := by omega
      have hm := HM.out
      have hv := HV.out
      rw [← HN.out, List.take_length] at hm hv
      have HRD := Lib.hid (rdr_of_row hm.symm HO.out hv HB.out)
      have HJ1 := Lib.hid (HJ.out A1 c1 m wr hm.symm HRD.out)
      clear hv hm HM HV
      have hi7 := fun (w1 : World) => idx8 (T l) (k := 7) (by omega) w1
      simp only [show ((7 : Nat) : Int) = 7 from rfl] at hi7
      go_wp2_with (go_at_call 79; refine HJ1.out.mono ?_; rintro e w2 ⟨rfl, b2⟩; unfold ag8)
      go_ret
      exact ⟨by rw [HWW.out]; rfl, HB.out.trans (b2.mono HB.out.size)⟩

end Go.Proofs.Ytccbjgajmjcpjab

/-
  Chapter 9, the program: WorthWith, what all things are worth to each set of bidders, and IsNested.
-/
namespace Go.Proofs.Ytccbjgajmjcpjab
open Go.RowKit

set_option maxHeartbeats 1000000 in
theorem WorthWith_any (A : Option Addr) (c : Nat) (ts : List (List Int)) (x : Int) (w : World) (h : RdR w A c ts) (hl2 : ∀ r ∈ ts, r.length ≤ 1099511627776) :
    Calls Try.prog 58 #[.slice A ts.length c, .int .i64 x] w fun e w' => e = .returned (.int .i64 (wwB ts x)) ∧ Below w.heap.size w w' := by
  have HC := Lib.hid (areTables_any A c ts w h hl2)
  rcases hb : vtsB ts with _ | _
  · have HE : Hid (wwB ts x = -1) := Lib.hid (by unfold wwB; rw [hb]; simp)
    rw [hb] at HC
    clear hb
    go_enter Try.func58, Try.ntmps58
    go_wp2_with (go_at_call 68; refine HC.out.mono ?_; rintro e w1 ⟨rfl, hb⟩)
    go_ret
    exact ⟨by rw [HE.out]; rfl, hb⟩
  · rw [hb] at HC
    have hv := vtsB_iff.1 hb
    have h4 := hv.1.2
    obtain ⟨n, hn⟩ : ∃ n, n = ts.length := ⟨_, rfl⟩
    have hsh := sh_bit (k := n) (by omega)
    obtain ⟨P, hP⟩ : ∃ P, P = 2 ^ n := ⟨_, rfl⟩
    have hp16 := pow_len (n := n) (by omega)
    rw [← hP] at hsh hp16
    have HWB : Hid (wwB ts x = if 0 ≤ x ∧ x < (P : Int) then ww ts x.toNat else -1) := Lib.hid (by unfold wwB; rw [hb, hP, hn]; simp)
    rw [← hn] at h4 HC ⊢
    clear hP
    by_cases hx0 : x < 0
    · have HE : Hid (wwB ts x = -1) := Lib.hid (by rw [HWB.out, if_neg (by omega)])
      clear hb hv HWB hn
      go_enter Try.func58, Try.ntmps58
      go_wp2_with (go_at_call 68; refine HC.out.mono ?_; rintro e w1 ⟨rfl, hb1⟩)
      go_ret
      exact ⟨by rw [HE.out]; rfl, hb1⟩
    · by_cases hx1 : (P : Int) ≤ x
      · have HE : Hid (wwB ts x = -1) := Lib.hid (by rw [HWB.out, if_neg (by omega)])
        clear hb hv HWB hn
        go_enter Try.func58, Try.ntmps58
        go_wp2_with (go_at_call 68; refine HC.out.mono ?_; rintro e w1 ⟨rfl, hb1⟩)
        go_ret
        exact ⟨by rw [HE.out]; rfl, hb1⟩
      · obtain ⟨s, rfl⟩ : ∃ s : Nat, x = (s : Int) := ⟨x.toNat, by omega⟩
        have HE : Hid (wwB ts (s : Int) = ww ts s) := Lib.hid (by rw [HWB.out, if_pos (by omega)]; rfl)
        have HW := Lib.hid (fun (w1 : World) (h1 : Below w.heap.size w w1) => worthToSome_any A c n s ts w1 hn.symm (h.below h1) h4 (by omega) hv.2)
        clear hb hv HWB hn
        go_enter Try.func58, Try.ntmps58
        go_wp2_with (first
          | (go_at_call 68; refine HC.out.mono ?_; rintro e w1 ⟨rfl, hb1⟩; have HB1 := Lib.hid hb1; clear hb1)
          | (go_at_call 126; refine (HW.out _ HB1.out).mono ?_; rintro e w2 ⟨rfl, hb2⟩))
        go_ret
        exact ⟨by rw [HE.out]; rfl, HB1.out.trans (hb2.mono HB1.out.size)⟩

set_option maxRecDepth 100000 in
set_option maxHeartbeats 1000000 in
theorem worthsToSets_any (A : Option Addr) (c n : Nat) (ts : List (List Int)) (w : World) (hn : ts.length = n) (h : RdR w A c ts) (h4 : n ≤ 4) (hv : ∀ t ∈ ts, VT t) :
    Calls Try.prog 134 #[.slice A n c] w (ValsIs w (fun S => ww ts S) (2 ^ n)) := by
  have hsh := sh_bit (k := n) (by omega)
  have hp16 := pow_len (n := n) (by omega)
  have HW := Lib.hid (fun (k : Nat) (w1 : World) (hk : k < 16) (hb : Below w.heap.size w w1) => worthToSome_any A c n k ts w1 hn (h.below hb) h4 hk hv)
  obtain ⟨P, hP⟩ : ∃ P, P = 2 ^ n := ⟨_, rfl⟩
  rw [← hP] at hsh hp16 ⊢
  have hp1 := hp16.1
  have hp2 := hp16.2
  clear hn h hv hP hp16
  obtain ⟨f, hf⟩ : ∃ f : Nat → Int, f = (fun S => ww ts S) := ⟨_, rfl⟩
  rw [← hf]
  have HF : Hid (∀ S, ww ts S = f S) := Lib.hid (fun S => by rw [hf])
  clear hf
  have hP0 : (0 : Int) ≤ (P : Int) := by omega
  go_enter Try.func134, Try.ntmps134
  go_wp2_with (at_make; refine wpList_make_ints rfl _ _ rfl w.heap.size P (congrArg (Value.int .i64) hsh) (congrArg (Value.int .i64) hsh) (by omega) (Nat.le_refl _) ?_; intro w3 ho3 hb3)
  have HO3 : Hid (Own w3 w.heap.size (some ⟨w.heap.size, 0, none⟩) P (filled (vls f P) 0)) := Lib.hid (by rw [filled_zero, vls_len]; exact ho3)
  have HB3 := Lib.hid hb3
  clear ho3 hb3
  go_loopw [11] (fun i wr => ∃ k : Nat, k ≤ P ∧ i = .int .i64 (k : Int) ∧ Hid (Own wr w.heap.size (some ⟨w.heap.size, 0, none⟩) P (filled (vls f P) k)) ∧ Hid (Below w.heap.size w wr)) (fun i _ => P - (intOf i).toNat)
  case atStart => exact ⟨0, Nat.zero_le _, rfl, HO3, HB3⟩
  case round =>
    obtain ⟨k, hk, rfl, HO, HB⟩ := hrel
    by_cases hlt : k < P
    · have HW1 := Lib.hid (HW.out k wr (by omega) HB.out)
      rw [HF.out k] at HW1
      have hjl : k < (filled (vls f P) k).length := by rw [filled_len _ _ (by rw [vls_len]; exact hk), vls_len]; exact hlt
      obtain ⟨y, hy⟩ := at_some hjl
      have HY := Lib.hid hy
      have hkP : (k : Int) < (P : Int) := by omega
      have hk0 : (0 : Int) ≤ (k : Int) := by omega
      clear hjl hy
      go_wp2_with (go_at_call 126; refine HW1.out.mono ?_; rintro e w5 ⟨rfl, b5⟩; have HO5 := Lib.hid (HO.out.below b5); have hc5 := HO5.out.cell HY.out; have hf5 := HO5.out.free k; have HST := Lib.hid (HO5.out.set_ k (f k)); have HB5 := Lib.hid ((HB.out.trans (b5.mono HB.out.size)).setCell (p := ⟨w.heap.size, k, none⟩) (Nat.le_refl _) (.int .i64 (f k))); clear b5)
      have HP6 : Hid (Own (w5.setCell ⟨w.heap.size, k, none⟩ (.int .i64 (f k))) w.heap.size (some ⟨w.heap.size, 0, none⟩) P (filled (vls f P) (k + 1))) := Lib.hid (by
        have h := HST.out
        rwa [filled_set _ _ _ (vls_at hlt)] at h)
      clear HST
      go_roundw
      case rel => exact ⟨k + 1, hlt, by go_num, HP6, HB5⟩
      case measure => simp [intOf]; omega
    · obtain rfl : k = P := by omega
      have HE : Hid (Own wr w.heap.size (some ⟨w.heap.size, 0, none⟩) k (vls f k)) := Lib.hid (by
        have h1 := filled_all (vls f k)
        rw [vls_len] at h1
        have h2 := HO.out
        rwa [h1] at h2)
      go_wp2
      go_ret
      exact ⟨w.heap.size, _, rfl, HE.out, HB.out⟩

/-- What IsNested tells. -/
noncomputable def nsB (ts : List (List Int)) : Bool := vtsB ts && neB (ww ts) (2 ^ ts.length)

set_option maxHeartbeats 1000000 in
theorem IsNested_any (A : Option Addr) (c : Nat) (ts : List (List Int)) (w : World) (h : RdR w A c ts) (hl2 : ∀ r ∈ ts, r.length ≤ 1099511627776) :
    Calls Try.prog 63 #[.slice A ts.length c] w fun e w' => e = .returned (.bool (nsB ts)) ∧ Below w.heap.size w w' := by
  have HC := Lib.hid (areTables_any A c ts w h hl2)
  rcases hb : vtsB ts with _ | _
  · have HE : Hid (nsB ts = false) := Lib.hid (by unfold nsB; rw [hb]; rfl)
    rw [hb] at HC
    clear hb
    go_enter Try.func63, Try.ntmps63
    go_wp2_with (go_at_call 68; refine HC.out.mono ?_; rintro e w1 ⟨rfl, hb⟩)
    go_ret
    exact ⟨by rw [HE.out]; rfl, hb⟩
  · rw [hb] at HC
    have hv := vtsB_iff.1 hb
    have h4 := hv.1.2
    have HE : Hid (nsB ts = neB (T (vls (ww ts) (2 ^ ts.length))) (2 ^ ts.length)) := Lib.hid (by
      unfold nsB
      rw [hb, Bool.true_and]
      have e : ∀ S, S < 2 ^ ts.length → T (vls (ww ts) (2 ^ ts.length)) S = ww ts S := fun S hS => T_of (vls_at hS)
      have hiff : Ne2 (ww ts) (2 ^ ts.length) ↔ Ne2 (T (vls (ww ts) (2 ^ ts.length))) (2 ^ ts.length) := by
        have key : ∀ a, a < 2 ^ ts.length → ∀ b, b < 2 ^ ts.length → a ||| b < 2 ^ ts.length ∧ a &&& b < 2 ^ ts.length := fun a ha b hb => ⟨Nat.or_lt_two_pow ha hb, Nat.lt_of_le_of_lt Nat.and_le_left ha⟩
        constructor
        · intro hh a ha b hb
          rw [e _ (key a ha b hb).1, e _ (key a ha b hb).2, e a ha, e b hb]
          exact hh a ha b hb
        · intro hh a ha b hb
          have := hh a ha b hb
          rwa [e _ (key a ha b hb).1, e _ (key a ha b hb).2, e a ha, e b hb] at this
      by_cases hh : Ne2 (ww ts) (2 ^ ts.length)
      · rw [neB_true hh, neB_true (hiff.1 hh)]
      · rw [neB_false hh, neB_false (fun x => hh (hiff.2 x))])
    have HS := Lib.hid (fun (w1 : World) (h1 : Below w.heap.size w w1) => worthsToSets_any A c ts.length ts w1 rfl (h.below h1) h4 hv.2)
    have HBD : Hid (∀ s, s < 2 ^ ts.length → 0 ≤ T (vls (ww ts) (2 ^ ts.length)) s ∧ T (vls (ww ts) (2 ^ ts.length)) s ≤ 120) := Lib.hid (fun s hs => by rw [T_of (vls_at hs)]; exact ww_bd hv.2 h4 s)
    have HA := Lib.hid (fun (A1 : Option Addr) (c1 : Nat) (w1 : World) (h1 : Rd w1 A1 c1 (vls (ww ts) (2 ^ ts.length))) => addsLess_any A1 c1 ts.length (2 ^ ts.length) (vls (ww ts) (2 ^ ts.length)) w1 h1 rfl h4 (vls_len _ _) HBD.out)
    have HFX : Hid ((fun S => ww ts S) = ww ts) := Lib.hid rfl
    generalize neB (T (vls (ww ts) (2 ^ ts.length))) (2 ^ ts.length) = v at *
    generalize 2 ^ ts.length = P at *
    clear hb hv HBD
    go_enter Try.func63, Try.ntmps63
    go_wp2_with (first
      | (go_at_call 68; refine HC.out.mono ?_; rintro e w1 ⟨rfl, hb1⟩; have HB1 := Lib.hid hb1; clear hb1)
      | (go_at_call 134; refine (HS.out _ HB1.out).mono ?_; rintro e w2 ⟨g2, c2, rfl, o2, b2⟩; have HR2 := Lib.hid o2.rd; have HB2 := Lib.hid (HB1.out.trans (b2.mono HB1.out.size)); clear o2 b2)
      | (go_at_call 104; refine (HA.out _ c2 _ HR2.out).mono ?_; rintro e w3 ⟨rfl, q, rfl⟩))
    go_ret
    exact ⟨by rw [HE.out]; rfl, below_drewN' HB2.out q⟩

end Go.Proofs.Ytccbjgajmjcpjab

/-
  Chapter 9: the model's IsNested; both sides of WorthWith and of IsNested.
-/
namespace Go.Proofs.Ytccbjgajmjcpjab
open Go.RowKit

theorem WorthWith_both (rows : List (List Int)) (k : Int) (hl : rows.length ≤ 1099511627776) (hl2 : ∀ r ∈ rows, r.length ≤ 1099511627776) :
    (∀ A c w, RdR w A c rows → Calls Try.prog 57 #[.slice A rows.length c, .int .i64 k] w fun e w' => e = .returned (.int .i64 (wwB rows k)) ∧ Below w.heap.size w w') ∧
    (∀ A c w, RdR w A c rows → Calls Try.prog 58 #[.slice A rows.length c, .int .i64 k] w fun e w' => e = .returned (.int .i64 (wwB rows k)) ∧ Below w.heap.size w w') :=
  ⟨fun A c w h => SWorthWith_any A c rows k w h hl hl2, fun A c w h => WorthWith_any A c rows k w h hl2⟩

set_option maxHeartbeats 1600000 in
theorem SIsNested_any (A : Option Addr) (c : Nat) (ts : List (List Int)) (w : World) (h : RdR w A c ts) (hl : ts.length ≤ 1099511627776) (hl2 : ∀ r ∈ ts, r.length ≤ 1099511627776) :
    Calls Try.prog 62 #[.slice A ts.length c] w fun e w' => e = .returned (.bool (nsB ts)) ∧ Below w.heap.size w w' := by
  have HC := Lib.hid (SvalidTables_any A c ts w h hl hl2)
  rcases hb : vtsB ts with _ | _
  · have HE : Hid (nsB ts = false) := Lib.hid (by unfold nsB; rw [hb]; rfl)
    rw [hb] at HC
    clear hb
    go_enter Try.func62, Try.ntmps62
    go_wp2_with (go_at_call 70; refine HC.out.mono ?_; rintro e w1 ⟨rfl, n, rfl⟩)
    go_ret
    exact ⟨by rw [HE.out]; rfl, below_drewN' (Below.refl _ _) n⟩
  · rw [hb] at HC
    have hv := vtsB_iff.1 hb
    have h4 := hv.1.2
    have HE : Hid (nsB ts = neB (T (vls (ww ts) (2 ^ ts.length))) (2 ^ ts.length)) := Lib.hid (by
      unfold nsB
      rw [hb, Bool.true_and]
      have e : ∀ S, S < 2 ^ ts.length → T (vls (ww ts) (2 ^ ts.length)) S = ww ts S := fun S hS => T_of (vls_at hS)
      have hiff : Ne2 (ww ts) (2 ^ ts.length) ↔ Ne2 (T (vls (ww ts) (2 ^ ts.length))) (2 ^ ts.length) := by
        have key : ∀ a, a < 2 ^ ts.length → ∀ b, b < 2 ^ ts.length → a ||| b < 2 ^ ts.length ∧ a &&& b < 2 ^ ts.length := fun a ha b hb => ⟨Nat.or_lt_two_pow ha hb, Nat.lt_of_le_of_lt Nat.and_le_left ha⟩
        constructor
        · intro hh a ha b hb
          rw [e _ (key a ha b hb).1, e _ (key a ha b hb).2, e a ha, e b hb]
          exact hh a ha b hb
        · intro hh a ha b hb
          have := hh a ha b hb
          rwa [e _ (key a ha b hb).1, e _ (key a ha b hb).2, e a ha, e b hb] at this
      by_cases hh : Ne2 (ww ts) (2 ^ ts.length)
      · rw [neB_true hh, neB_true (hiff.1 hh)]
      · rw [neB_false hh, neB_false (fun x => hh (hiff.2 x))])
    have HS := Lib.hid (fun (q : Nat) => SworthsOf_any A c ts.length ts (w.drewN q) rfl (h.drewN q) h4 hv.2)
    have HBD : Hid (∀ s, s < 2 ^ ts.length → 0 ≤ T (vls (ww ts) (2 ^ ts.length)) s ∧ T (vls (ww ts) (2 ^ ts.length)) s ≤ 120) := Lib.hid (fun s hs => by rw [T_of (vls_at hs)]; exact ww_bd hv.2 h4 s)
    have HO1 : Hid (∀ a b, a < 2 ^ ts.length → b < 2 ^ ts.length → a ||| b < 2 ^ ts.length) := Lib.hid (fun a b ha hb => Nat.or_lt_two_pow ha hb)
    have HA1 : Hid (∀ a b, a < 2 ^ ts.length → b < 2 ^ ts.length → a &&& b < 2 ^ ts.length) := Lib.hid (fun a b ha hb => Nat.lt_of_le_of_lt Nat.and_le_left ha)
    have hp16 := pow_len h4
    have HLE : Hid ((vls (ww ts) (2 ^ ts.length)).length = 2 ^ ts.length) := Lib.hid (vls_len _ _)
    have HS : Hid (∀ q : Nat, Calls Try.prog 131 #[.slice A ts.length c] (w.drewN q) fun e w' => ∃ A2 c2, e = .returned (.slice A2 (2 ^ ts.length) c2) ∧ Rd w' A2 c2 (vls (ww ts) (2 ^ ts.length)) ∧ Below w.heap.size w w') := Lib.hid (fun q => (HS.out q).mono (fun e w' ⟨g, c2, e1, o, b⟩ => ⟨some ⟨g, 0, none⟩, c2, e1, o.rd, (below_drewN' (Below.refl _ w) q).trans (b.mono (Nat.le_refl _))⟩))
    generalize vls (ww ts) (2 ^ ts.length) = l at *
    generalize 2 ^ ts.length = P at *
    have HN := Lib.hid (fun (hm : ¬ Ne2 (T l) P) => neB_false hm)
    have HY := Lib.hid (fun (hm : NeTo (T l) P P) => neB_true (f := T l) (P := P) hm)
    have h16 := hp16.2
    clear hb hv hp16
    go_enter Try.func62, Try.ntmps62
    go_wp2_with (first
      | (go_at_call 70; refine HC.out.mono ?_; rintro e w1 ⟨rfl, n, rfl⟩)
      | (go_at_call 131; refine (HS.out _).mono ?_; rintro e w2 ⟨A2, c2, rfl, h, b2⟩; have HB2 := Lib.hid b2; clear b2))
    have hl := HLE.out
    go_loopw [4] (fun i wr => ∃ k n : Nat, k ≤ P ∧ i = .int .i64 (k : Int) ∧ wr = w2.drewN n ∧ Hid (NeTo (T l) P k)) (fun i _ => P - (intOf i).toNat)
    case atStart => exact ⟨0, 0, by omega, rfl, rfl, Lib.hid (NeTo.zero _ _)⟩
    case round =>
      obtain ⟨k, n, hk, rfl, rfl, HO⟩ := hrel
      by_cases hlt : k < P
      · obtain ⟨b, off, x, hA0, _, hx, hc0⟩ := h.at_ (k := k) (by omega)
        cases hA0
        have hTx := T_of hx.out
        have hxb := HBD.out k hlt
        rw [hTx] at hxb
        have HTX := Lib.hid hTx
        obtain ⟨hx0, hx30⟩ := hxb
        clear hx hTx hc0
        have hk0 : (0 : Int) ≤ (k : Int) := by omega
        have hk8 : (k : Int) < (P : Int) := by omega
        go_wp2
        go_loopw [5] (fun i wr => ∃ j m : Nat, j ≤ P ∧ i = .int .i64 (j : Int) ∧ wr = w2.drewN m ∧ Hid (NeU (T l) k j)) (fun i _ => P - (intOf i).toNat)
        case atStart => exact ⟨0, n, by omega, rfl, rfl, Lib.hid (NeU.zero _ k)⟩
        case round =>
          obtain ⟨j, m, hj, rfl, rfl, HU⟩ := hrel
          by_cases hjl : j < P
          · obtain ⟨b1, off1, x', hA, _, hx', hc⟩ := h.at_ (k := k) (by omega)
            cases hA
            obtain rfl : x = x' := HTX.out.symm.trans (T_of hx'.out)
            obtain ⟨b2, off2, y, hA, _, hy, hc2⟩ := h.at_ (k := j) (by omega)
            cases hA
            obtain ⟨b3, off3, u, hA, _, hu, hc3⟩ := h.at_ (k := k ||| j) (by rw [hl]; exact HO1.out _ _ hlt hjl)
            cases hA
            obtain ⟨b4, off4, v, hA, _, hv, hc4⟩ := h.at_ (k := k &&& j) (by rw [hl]; exact HA1.out _ _ hlt hjl)
            cases hA
            have hTy := T_of hy.out
            have hTu := T_of hu.out
            have hTv := T_of hv.out
            have hyb := HBD.out j hjl
            have hub := HBD.out (k ||| j) (HO1.out _ _ hlt hjl)
            have hvb := HBD.out (k &&& j) (HA1.out _ _ hlt hjl)
            rw [hTy] at hyb
            rw [hTu] at hub
            rw [hTv] at hvb
            have HNO : x + y < u + v → Hid (neB (T l) P = false) := fun hh => Lib.hid (HN.out (fun hm => by have := hm k hlt j hjl; rw [hTu, hTv, HTX.out, hTy] at this; omega))
            have HYE : ¬ x + y < u + v → Hid (NeU (T l) k (j + 1)) := fun hh => Lib.hid (HU.out.next (by rw [hTu, hTv, HTX.out, hTy]; omega))
            obtain ⟨hy0, hy30⟩ := hyb
            obtain ⟨hu0, hu30⟩ := hub
            obtain ⟨hv0, hv30⟩ := hvb
            have ho := or16 (a := k) (b := j) (by omega) (by omega)
            have ha := and16 (a := k) (b := j) (by omega) (by omega)
            have ho8 := HO1.out k j hlt hjl
            have ha8 := HA1.out k j hlt hjl
            obtain ⟨p, hp⟩ : ∃ p, p = k ||| j := ⟨_, rfl⟩
            obtain ⟨q, hq⟩ : ∃ q, q = k &&& j := ⟨_, rfl⟩
            rw [← hp] at ho hc3 ho8
            rw [← hq] at ha hc4 ha8
            have hp0 : (0 : Int) ≤ (p : Int) := by omega
            have hp8 : (p : Int) < (P : Int) := by omega
            have hq0 : (0 : Int) ≤ (q : Int) := by omega
            have hq8 : (q : Int) < (P : Int) := by omega
            have hj0 : (0 : Int) ≤ (j : Int) := by omega
            have hj8 : (j : Int) < (P : Int) := by omega
            clear hp hq hy hu hv hTy hTu hTv hx'
            have e1 : IntKind.i64.wrap (x + y) = x + y := IntWalk.i64_in _ (by omega)
            have e2 : IntKind.i64.wrap (u + v) = u + v := IntWalk.i64_in _ (by omega)
            by_cases hh : x + y < u + v
            · have HEE := HNO hh
              clear HNO HYE
              go_wp2_with fail
              go_quiet (fail)
              go_wp2
              go_ret
              exact ⟨by rw [HE.out, HEE.out]; rfl, below_drewN' (below_drewN' HB2.out m) nq⟩
            · have HU' := HYE hh
              clear HNO HYE
              go_wp2_with fail
              go_quiet (fail)
              go_wp2
              go_roundw
              case rel => exact ⟨j + 1, _, by omega, by go_num, rfl, HU'⟩
              case measure => simp [intOf]; omega
          · obtain rfl : j = P := by omega
            have HO' := Lib.hid (HO.out.next HU.out)
            go_wp2
            go_roundw
            case rel => exact ⟨k + 1, _, by omega, by go_num, rfl, HO'⟩
            case measure => simp [intOf]; omega
      · obtain rfl : k = P := by omega
        have HEE := Lib.hid (HY.out HO.out)
        go_wp2
        go_ret
        exact ⟨by rw [HE.out, HEE.out]; rfl, below_drewN' HB2.out _⟩


theorem IsNested_both (rows : List (List Int)) (hl : rows.length ≤ 1099511627776) (hl2 : ∀ r ∈ rows, r.length ≤ 1099511627776) :
    (∀ A c w, RdR w A c rows → Calls Try.prog 62 #[.slice A rows.length c] w fun e w' => e = .returned (.bool (nsB rows)) ∧ Below w.heap.size w w') ∧
    (∀ A c w, RdR w A c rows → Calls Try.prog 63 #[.slice A rows.length c] w fun e w' => e = .returned (.bool (nsB rows)) ∧ Below w.heap.size w w') :=
  ⟨fun A c w h => SIsNested_any A c rows w h hl hl2, fun A c w h => IsNested_any A c rows w h hl2⟩

end Go.Proofs.Ytccbjgajmjcpjab
