/-
  Chapter 9, the model: WorthWith, and what all things are worth to each set of bidders.
-/
import Derived.Test.YtccbjgajmjcpjabSg
namespace Go.Proofs.Ytccbjgajmjcpjab
open Go.RowKit

/-- What WorthWith tells. -/
noncomputable def wwB (ts : List (List Int)) (x : Int) : Int := if vtsB ts = true ∧ 0 ≤ x ∧ x < ((2 ^ ts.length : Nat) : Int) then ww ts x.toNat else -1
theorem pow_len {n : Nat} (h : n ≤ 4) : 1 ≤ 2 ^ n ∧ 2 ^ n ≤ 16 := ⟨Nat.pow_pos (by omega), Nat.pow_le_pow_right (n := 2) (by omega) h⟩

/-- What all things are worth to the bidders of a set: the calls. -/
theorem Sworth_any (n S : Nat) (ts : List (List Int)) (hn : ts.length = n) (h4 : n ≤ 4) (hv : ∀ t ∈ ts, VT t) (w0 w : World) (A1 : Option Addr) (c1 m : Nat) (vs : List Value) (hm : (ch ts S).length = m) (ho : w.ownsRow w0.heap.size 26 1 (.slice A1 m c1) m vs) (hvs : RowsV w0 vs (ch ts S)) (hb : Below w0.heap.size w0 w) :
    Calls Try.prog 112 #[.slice A1 m c1, .int .i64 7] w fun e w' => e = .returned (.int .i64 (ww ts S)) ∧ ∃ q, w' = w.drewN q := by
  have hr := rdr_of_row hm ho hvs hb
  subst hm
  exact SsplitValue_any (ch ts S) A1 c1 7 w hr (ch_vt hv S) (by have := ch_len ts S; omega) (by omega)

set_option maxHeartbeats 1000000 in
theorem SWorthWith_any (A : Option Addr) (c : Nat) (ts : List (List Int)) (x : Int) (w : World) (h : RdR w A c ts) (hl : ts.length ≤ 1099511627776) (hl2 : ∀ r ∈ ts, r.length ≤ 1099511627776) :
    Calls Try.prog 57 #[.slice A ts.length c, .int .i64 x] w fun e w' => e = .returned (.int .i64 (wwB ts x)) ∧ Below w.heap.size w w' := by
  have HC := Lib.hid (SvalidTables_any A c ts w h hl hl2)
  rcases hb : vtsB ts with _ | _
  · have HE : Hid (wwB ts x = -1) := Lib.hid (by unfold wwB; rw [hb]; simp)
    rw [hb] at HC
    clear hb
    go_enter Try.func57, Try.ntmps57
    go_wp2_with (go_at_call 70; refine HC.out.mono ?_; rintro e w1 ⟨rfl, n, rfl⟩)
    go_ret
    exact ⟨by rw [HE.out]; rfl, below_drewN' (Below.refl _ _) n⟩
  · rw [hb] at HC
    have hv := vtsB_iff.1 hb
    have h4 := hv.1.2
    obtain ⟨n, hn⟩ : ∃ n, n = ts.length := ⟨_, rfl⟩
    have HP := Lib.hid (fun w1 => Spow4_any n (by omega) w1)
    obtain ⟨P, hP⟩ : ∃ P, P = 2 ^ n := ⟨_, rfl⟩
    have hp16 := pow_len (n := n) (by omega)
    rw [← hP] at HP hp16
    have HWB : Hid (wwB ts x = if 0 ≤ x ∧ x < (P : Int) then ww ts x.toNat else -1) := Lib.hid (by unfold wwB; rw [hb, hP, hn]; simp)
    rw [← hn] at h4 HC ⊢
    clear hP
    by_cases hx : 0 ≤ x ∧ x < (P : Int)
    · obtain ⟨s, rfl⟩ : ∃ s : Nat, x = (s : Int) := ⟨x.toNat, by omega⟩
      have HE : Hid (wwB ts (s : Int) = ww ts s) := Lib.hid (by rw [HWB.out, if_pos hx]; rfl)
      have HR : Hid (∀ w1, Calls Try.prog 115 #[.int .i64 (s : Int), .int .i64 0, .int .i64 ((P : Int) - 1)] w1 fun e w' => e = .returned (.bool true) ∧ w1 = w') := Lib.hid (fun w1 => by have := inRange_any s 0 ((P : Int) - 1) w1; rwa [inR_true.2 ⟨hx.1, by omega⟩] at this)
      have HCH := Lib.hid (fun (q : Nat) => Schosen_any A c n s ts (w.drewN q) hn.symm (h.drewN q) h4 (by omega))
      have HJ := Lib.hid (Sworth_any n s ts hn.symm h4 hv.2)
      clear hb hv hx HWB hn
      go_enter Try.func57, Try.ntmps57
      go_wp2_with (first
        | (go_at_call 70; refine HC.out.mono ?_; rintro e w1 ⟨rfl, n, rfl⟩)
        | (go_at_call 124; refine (HP.out _).mono ?_; rintro e w1 ⟨rfl, rfl⟩)
        | (go_at_call 115; refine (HR.out _).mono ?_; rintro e w1 ⟨rfl, rfl⟩)
        | (go_at_call 125; refine (HCH.out _).mono ?_; rintro e w2 ⟨A2, c2, vs2, rfl, o2, v2, b2⟩)
        | (go_at_call 113; refine (Sall_any _).mono ?_; rintro e w3 ⟨rfl, rfl⟩)
        | (go_at_call 112; refine (HJ.out _ _ A2 c2 _ vs2 rfl o2 v2 b2).mono ?_; rintro e w4 ⟨rfl, q, rfl⟩))
      go_ret
      exact ⟨by rw [HE.out]; rfl, below_drewN' (Below.trans (below_drewN' (Below.refl _ _) n) (b2.mono (Nat.le_refl _))) q⟩
    · have HE : Hid (wwB ts x = -1) := Lib.hid (by rw [HWB.out, if_neg hx])
      have HR : Hid (∀ w1, Calls Try.prog 115 #[.int .i64 x, .int .i64 0, .int .i64 ((P : Int) - 1)] w1 fun e w' => e = .returned (.bool false) ∧ w1 = w') := Lib.hid (fun w1 => by have := inRange_any x 0 ((P : Int) - 1) w1; rwa [inR_false.2 (fun h => hx ⟨h.1, by omega⟩)] at this)
      clear hb hv hx HWB hn
      go_enter Try.func57, Try.ntmps57
      go_wp2_with (first
        | (go_at_call 70; refine HC.out.mono ?_; rintro e w1 ⟨rfl, n, rfl⟩)
        | (go_at_call 124; refine (HP.out _).mono ?_; rintro e w1 ⟨rfl, rfl⟩)
        | (go_at_call 115; refine (HR.out _).mono ?_; rintro e w1 ⟨rfl, rfl⟩))
      go_ret
      exact ⟨by rw [HE.out]; rfl, below_drewN' (Below.refl _ _) n⟩

/-- The worths of the sets below k. -/
def wsF (ts : List (List Int)) (k : Nat) : List Int := vls (fun S => ww ts S) k

set_option maxHeartbeats 1000000 in
theorem SworthsOf_any (A : Option Addr) (c n : Nat) (ts : List (List Int)) (w : World) (hn : ts.length = n) (h : RdR w A c ts) (h4 : n ≤ 4) (hv : ∀ t ∈ ts, VT t) :
    Calls Try.prog 131 #[.slice A n c] w (ValsIs w (fun S => ww ts S) (2 ^ n)) := by
  have HP := Lib.hid (fun w1 => Spow4_any n (by omega) w1)
  have hp16 := pow_len (n := n) (by omega)
  have HCH := Lib.hid (fun (k : Nat) (w1 : World) (hk : k < 16) (hb : Below w.heap.size w w1) => Schosen_any A c n k ts w1 hn (h.below hb) h4 hk)
  have HJ := Lib.hid (fun (k : Nat) => Sworth_any n k ts hn h4 hv)
  obtain ⟨P, hP⟩ : ∃ P, P = 2 ^ n := ⟨_, rfl⟩
  rw [← hP] at HP hp16 ⊢
  clear hn h hv hP
  obtain ⟨f, hf⟩ : ∃ f : Nat → Int, f = (fun S => ww ts S) := ⟨_, rfl⟩
  rw [← hf]
  have HF : Hid (∀ S, ww ts S = f S) := Lib.hid (fun S => by rw [hf])
  clear hf
  go_enter Try.func131, Try.ntmps131
  go_wp2_with fail
  go_loopw [3, 4] (fun v iv wr => ∃ (k g1 c1 : Nat), k ≤ P ∧ iv = .int .i64 (k : Int) ∧ v = .slice (some ⟨g1, 0, none⟩) k c1 ∧ Hid (Own wr w.heap.size (some ⟨g1, 0, none⟩) c1 (vls f k)) ∧ Hid (Below w.heap.size w wr)) (fun _ iv _ => P - (intOf iv).toNat)
  case atStart => exact ⟨0, _, _, by omega, rfl, rfl, Lib.hid (own_new_ints w), Lib.hid ((Below.refl _ w).alloc (Nat.le_refl _) _)⟩
  case round =>
    obtain ⟨k, g1, c1, hk, rfl, rfl, HO, HB⟩ := hrel
    by_cases hlt : k < P
    · have HC1 := Lib.hid (HCH.out k wr (by omega) HB.out)
      have HJ1 := Lib.hid (HJ.out k)
      have HLL := Lib.hid (vls_len f k)
      have HMO := Lib.hid (vls_more f k)
      have hw := HF.out k
      rw [hw] at HJ1
      have hk1 : (k : Int) < (P : Int) := by omega
      clear hw
      go_wp2_with (first
        | (go_at_call 124; refine (HP.out _).mono ?_; rintro e w1 ⟨rfl, rfl⟩)
        | (go_at_call 125; refine HC1.out.mono ?_; rintro e w2 ⟨A2, c2, vs2, rfl, o2, v2, b2⟩)
        | (go_at_call 113; refine (Sall_any _).mono ?_; rintro e w3 ⟨rfl, rfl⟩)
        | (go_at_call 112; refine (HJ1.out _ _ A2 c2 _ vs2 rfl o2 v2 b2).mono ?_; rintro e w4 ⟨rfl, q, rfl⟩; have HB5 := Lib.hid (below_drewN' (HB.out.trans (b2.mono HB.out.size)) q); have HO5 := Lib.hid (((HO.out.below b2).drewN q).below ((Below.refl (w2.drewN q).heap.size (w2.drewN q)).alloc (Nat.le_refl _) (.cells #[.int .i64 (f k)] 3))); have HL5 := Lib.hid (own_lit (w2.drewN q) [f k] (by simp)).rd; have HSZ := Lib.hid (Nat.le_trans HB5.out.size ((Below.refl _ (w2.drewN q)).alloc (Nat.le_refl _) (.cells #[.int .i64 (f k)] 3)).size); clear b2 o2 v2)
        | (at_builtin; refine wpList_append_any rfl _ _ 26 Try.underlying26 rfl w.heap.size (some ⟨g1, 0, none⟩) c1 (vls f k) k HLL.out rfl HO5.out (some ⟨w2.heap.size, 0, none⟩) 1 [f k] 1 rfl rfl HL5.out (by omega) HSZ.out ?_; intro A6 c6 w6 ho6 hg6))
      have HB6 := Lib.hid (((HB5.out.trans ((((Below.refl _ (w2.drewN q)).alloc (Nat.le_refl _) (.cells #[.int .i64 (f k)] 3))).mono HB5.out.size))).grown hg6 HSZ.out (fun q e => by
        cases e
        exact (World.ownsRow.lt HO.out _ rfl).1))
      rw [← HMO.out] at ho6
      obtain ⟨g6, rfl⟩ := own_some ho6 (by rw [vls_len]; omega)
      go_roundw
      case rel => exact ⟨k + 1, g6, c6, hlt, by go_num, rfl, Lib.hid ho6, HB6⟩
      case measure => simp [intOf]; omega
    · obtain rfl : k = P := by omega
      go_wp2_with (go_at_call 124; refine (HP.out _).mono ?_; rintro e w1 ⟨rfl, rfl⟩)
      go_ret
      exact ⟨g1, c1, rfl, HO.out, HB.out⟩

end Go.Proofs.Ytccbjgajmjcpjab
