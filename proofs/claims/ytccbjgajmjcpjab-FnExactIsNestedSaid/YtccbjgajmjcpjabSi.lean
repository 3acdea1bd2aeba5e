/-
  Chapter 9, the program: what all things are worth to some bidders, and to each set of them.
-/
import Derived.Test.YtccbjgajmjcpjabSh
import Derived.Test.YtccbjgajmjcpjabWj
namespace Go.Proofs.Ytccbjgajmjcpjab
open Go.RowKit

theorem sh_bit {k : Nat} (hk : k ≤ 4) : wrap64 ((2 : Int) ^ k) = ((2 ^ k : Nat) : Int) := by
  have e : (2 : Int) ^ k = ((2 ^ k : Nat) : Int) := by simp
  have h := Nat.pow_le_pow_right (n := 2) (by omega) hk
  rw [e]
  generalize 2 ^ k = p at *
  exact IntWalk.wrap64_in (p : Int) ⟨by omega, by omega⟩
theorem and_bit {u k : Nat} (hu : u < 16) (hk : k < 4) : bits .and .i64 (u : Int) ((2 ^ k : Nat) : Int) = ((u / 2 ^ k % 2 * 2 ^ k : Nat) : Int) := by
  have : ∀ (u : Fin 16) (k : Fin 4), bits .and .i64 ((u.1 : Nat) : Int) ((2 ^ k.1 : Nat) : Int) = ((u.1 / 2 ^ k.1 % 2 * 2 ^ k.1 : Nat) : Int) := by decide +kernel
  exact this ⟨u, hu⟩ ⟨k, hk⟩
theorem and_ne {u k : Nat} (hu : u < 16) (hk : k < 4) : (bits .and .i64 (u : Int) (wrap64 ((2 : Int) ^ k)) != 0) = decide (u / 2 ^ k % 2 = 1) := by
  rw [sh_bit (by omega), and_bit hu hk]
  have : ∀ (u : Fin 16) (k : Fin 4), ((((u.1 / 2 ^ k.1 % 2 * 2 ^ k.1 : Nat) : Int)) != 0) = decide (u.1 / 2 ^ k.1 % 2 = 1) := by decide +kernel
  exact this ⟨u, hu⟩ ⟨k, hk⟩

set_option maxRecDepth 100000 in
set_option maxHeartbeats 1000000 in
theorem worthToSome_any (A : Option Addr) (c n S : Nat) (ts : List (List Int)) (w : World) (hn : ts.length = n) (h : RdR w A c ts) (h4 : n ≤ 4) (hS : S < 16) (hv : ∀ t ∈ ts, VT t) :
    Calls Try.prog 126 #[.slice A n c, .int .i64 (S : Int)] w fun e w' => e = .returned (.int .i64 (ww ts S)) ∧ Below w.heap.size w w' := by
  have HWW : Hid (ww ts S = T (jnAll (ch ts S)) 7) := Lib.hid (by unfold ww; rw [jnAll_at (fun t ht => (hv t (ch_mem ht)).2.1) (by omega)])
  have HJ := Lib.hid (fun (A : Option Addr) (c m : Nat) (w : World) (hm : (ch ts S).length = m) (h1 : RdR w A c (ch ts S)) => by
    have := joinedOf_gen A c (ch ts S) w h1 (by have := ch_len ts S; omega) (ch_vt hv S); rw [hm] at this; exact this)
  have H4 : Hid (∀ k, (ch (ts.take k) S).length ≤ 4) := Lib.hid (fun k => ch_len4 (by omega) S k)
  have HN := Lib.hid hn
  obtain ⟨l, hl⟩ : ∃ l, l = jnAll (ch ts S) := ⟨_, rfl⟩
  rw [← hl] at HWW HJ
  clear hn hl hv
  obtain ⟨i0, hi, hz0, hz1, hz2⟩ := info_parts intsU_info
  go_enter Try.func126, Try.ntmps126
  go_wp2_with fail
  go_loopw [5, 10] (fun v iv wr => ∃ (k m : Nat) (A1 : Option Addr) (c1 : Nat) (vs : List Value), k ≤ n ∧ iv = .int .i64 (k : Int) ∧ v = .slice A1 m c1 ∧ Hid (m = (ch (ts.take k) S).length) ∧ Hid (wr.ownsRow w.heap.size 26 1 (.slice A1 m c1) m vs) ∧ Hid (RowsV w vs (ch (ts.take k) S)) ∧ Hid (Below w.heap.size w wr)) (fun _ iv _ => n - (intOf iv).toNat)
  case atStart => exact ⟨0, 0, _, _, [], by omega, rfl, rfl, Lib.hid (by simp [ch]), Lib.hid (World.ownsRow_nil _ _ _ _), Lib.hid (by simp [ch]; exact RowsV.nil w), Lib.hid (Below.refl _ w)⟩
  case round =>
    obtain ⟨k, m, A1, c1, vs, hk, rfl, rfl, HM, HO, HV, HB⟩ := hrel
    by_cases hlt : k < n
    · obtain ⟨b, off, t, A', c', rfl, ht, hc, hcap, hrd⟩ := (h.below HB.out).at_ (k := k) (by rw [HN.out]; exact hlt)
      have hc0 := h.at_ (k := k) (by rw [HN.out]; exact hlt)
      have hm4 : m ≤ 4 := by rw [HM.out]; exact H4.out k
      have han := and_ne (u := S) (k := k) hS (by omega)
      by_cases hb : S / 2 ^ k % 2 = 1
      · rw [decide_eq_true hb] at han
        have HCH := Lib.hid (ch_yes ht.out hb)
        have HR1 : Hid (Row1 w (.slice A' t.length c') t) := Lib.hid (by
          obtain ⟨b0, off0, t0, A0, c0, e0, ht0, hc0', hcap0, hrd0⟩ := hc0
          cases e0
          have e1 : t0 = t := by have h1 := ht0.out; rw [ht.out] at h1; cases h1; rfl
          subst e1
          have h2 := (HB.out.cell (p := ⟨b, off + k, none⟩) (World.block_lt_of_cell? w _ hc0')).trans hc0'
          rw [hc] at h2
          cases h2
          exact ⟨A', c', rfl, hcap0.out, hrd0.out⟩)
        have hSz : w.heap.size ≤ wr.heap.size + 1 := by have := HB.out.size; omega
        have HT := Lib.hid (fun (q : Nat) => own_len HO.out ((below_drewN' (Below.refl _ wr) q).alloc (Nat.le_refl _) (.cells #[.slice A' t.length c'] 26)))
        have HBA : Hid (∀ q : Nat, Below w.heap.size w ((wr.drewN q).alloc (.cells #[.slice A' t.length c'] 26))) := Lib.hid (fun q => (below_drewN' HB.out q).alloc HB.out.size _)
        have hb63 : m + 1 ≤ maxLen := by unfold maxLen; omega
        have hkn : (k : Int) < (n : Int) := by omega
        clear hc0 hb ht hcap hrd
        go_wp2_with (at_builtin; (refine wpList_append_own _ rfl _ _ 23 rfl w.heap.size 26 i0 (.slice none 0 0) 1 24 Try.underlying23 hi hz0 hz1 hz2 rfl (by decide) (.slice A1 m c1) m vs rfl (HT.out 0) ⟨wr.heap.size, 0, none⟩ 1 1 [.slice A' t.length c'] rfl rfl (cell_one_new _ _ _) (by simp [Value.oneCell']) hb63 (by omega) (by simpa using hSz) ?_; intro v5 w5 hown5 hg5 _))
        obtain ⟨A5, c5, rfl⟩ := rowv_shape hown5
        have HO5 := Lib.hid hown5
        have HB5 : Hid (Below w.heap.size w w5) := Lib.hid ((HBA.out 0).grown hg5 (by simpa using hSz) (fun q e => (World.ownsRow.lt HO.out q e).1))
        have HV5 : Hid (RowsV w (vs ++ [.slice A' t.length c']) (ch (ts.take (k + 1)) S)) := Lib.hid (by rw [HCH.out]; exact HV.out.more HR1.out)
        have HM5 : Hid (m + 1 = (ch (ts.take (k + 1)) S).length) := Lib.hid (by rw [HCH.out, List.length_append, ← HM.out]; rfl)
        clear hown5 hg5
        go_roundw
        case rel => exact ⟨k + 1, m + 1, A5, c5, _, hlt, by go_num, rfl, HM5, HO5, HV5, HB5⟩
        case measure => simp [intOf]; omega
      · rw [decide_eq_false hb] at han
        have HCH := Lib.hid (ch_no ht.out hb)
        have hkn : (k : Int) < (n : Int) := by omega
        clear hc0 hb ht hcap hrd
        go_wp2
        go_roundw
        case rel => exact ⟨k + 1, m, A1, c1, vs, hlt, by go_num, rfl, Lib.hid (by rw [HCH.out]; exact HM.out), HO, Lib.hid (by rw [HCH.out]; exact HV.out), HB⟩
        case measure => simp [intOf]; omega
    · obtain rfl : k = n := by omega
      have hm := HM.out
      have hv := HV.out
      rw [← HN.out, List.take_length] at hm hv
      have HRD := Lib.hid (rdr_of_row hm.symm HO.out hv HB.out)
      have HJ1 := Lib.hid (HJ.out A1 c1 m wr hm.symm HRD.out)
      clear hv hm HM HV
      have hi7 := fun (w1 : World) => idx8 (T l) (k := 7) (by omega) w1
      simp only [show ((7 : Nat) : Int) = 7 from rfl] at hi7
      go_wp2_with (go_at_call 79; refine HJ1.out.mono ?_; rintro e w2 ⟨rfl, b2⟩; unfold ag8)
      go_ret
      exact ⟨by rw [HWW.out]; rfl, HB.out.trans (b2.mono HB.out.size)⟩

end Go.Proofs.Ytccbjgajmjcpjab
