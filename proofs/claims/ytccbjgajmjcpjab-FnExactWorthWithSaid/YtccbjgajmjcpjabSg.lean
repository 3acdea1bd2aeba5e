/-
  Chapter 9, the model: the bidders of a set, and what all things are worth to them.
-/
import Derived.Test.YtccbjgajmjcpjabSb
import Derived.Test.YtccbjgajmjcpjabWm
import Derived.Test.YtccbjgajmjcpjabOg
import Derived.Test.YtccbjgajmjcpjabRw
import Derived.Test.YtccbjgajmjcpjabZb
namespace Go.Proofs.Ytccbjgajmjcpjab
open Go.RowKit

/-- What a call hands back: rows, in a block of its own or none. -/
def NewRows (w : World) (rows : List (List Int)) (e : Ending) (w' : World) : Prop :=
  ∃ A c vs, e = .returned (.slice A rows.length c) ∧ w'.ownsRow w.heap.size 26 1 (.slice A rows.length c) rows.length vs ∧ RowsV w vs rows ∧ Below w.heap.size w w'
theorem rdr_of_row {w0 w : World} {B c n : Nat} {A : Option Addr} {vs : List Value} {rows : List (List Int)} (hn : rows.length = n) (ho : w.ownsRow B 26 1 (.slice A n c) n vs) (hv : RowsV w0 vs rows) (hb : Below w0.heap.size w0 w) : RdR w A c rows := by
  subst hn
  rcases ho.2 with ⟨h, h0⟩ | ⟨g, cap, cur, hvv, h5⟩
  · injection h with hA h1 h2
    subst hA h2
    rw [List.eq_nil_of_length_eq_zero h0]
    exact RdR.nil w
  · injection hvv with hA _ hc
    subst hA hc
    exact rdr_of_own ho hv hb
theorem RowsV.more {w : World} {vs : List Value} {rows : List (List Int)} {v : Value} {r : List Int} (h : RowsV w vs rows) (hv : Row1 w v r) : RowsV w (vs ++ [v]) (rows ++ [r]) := by
  refine ⟨by simp [h.1], fun k q hk => ?_⟩
  rcases Nat.lt_or_ge k rows.length with hl | hl
  · rw [List.getElem?_append_left hl] at hk
    obtain ⟨u, hu, hr⟩ := h.2 k q hk
    exact ⟨u, by rw [List.getElem?_append_left (by rw [h.1]; exact hl)]; exact hu, hr⟩
  · rw [List.getElem?_append_right hl] at hk
    obtain rfl : k = rows.length := by
      have := (List.getElem?_eq_some_iff.1 hk).1
      simp at this; omega
    simp at hk
    subst hk
    exact ⟨v, by rw [List.getElem?_append_right (by rw [h.1]; exact Nat.le_refl _), h.1]; simp, hv⟩
theorem rowv_shape {w : World} {B T sz n : Nat} {v : Value} {xs : List Value} (h : w.ownsRow B T sz v n xs) : ∃ A c, v = .slice A n c := by
  rcases h.2 with ⟨hv, hn⟩ | ⟨g, cap, cur, hv, _⟩
  · exact ⟨none, 0, by rw [hv, hn]⟩
  · exact ⟨_, _, hv⟩
theorem RowsV.nil (w : World) : RowsV w [] [] := ⟨rfl, fun k r hk => by simp at hk⟩
theorem ch_yes {ts : List (List Int)} {S k : Nat} {t : List Int} (h : ts[k]? = some t) (hb : S / 2 ^ k % 2 = 1) : ch (ts.take (k + 1)) S = ch (ts.take k) S ++ [t] := by rw [ch_take ts S k h, if_pos hb]
theorem ch_no {ts : List (List Int)} {S k : Nat} {t : List Int} (h : ts[k]? = some t) (hb : ¬ S / 2 ^ k % 2 = 1) : ch (ts.take (k + 1)) S = ch (ts.take k) S := by rw [ch_take ts S k h, if_neg hb]
theorem ch_len4 {ts : List (List Int)} (h : ts.length ≤ 4) (S k : Nat) : (ch (ts.take k) S).length ≤ 4 := by
  have h1 := ch_len (ts.take k) S
  rw [List.length_take] at h1
  omega

set_option maxHeartbeats 1000000 in
theorem Schosen_any (A : Option Addr) (c n S : Nat) (ts : List (List Int)) (w : World) (hn : ts.length = n) (h : RdR w A c ts) (h4 : n ≤ 4) (hS : S < 16) :
    Calls Try.prog 125 #[.slice A n c, .int .i64 (S : Int)] w (NewRows w (ch ts S)) := by
  have HBI : Hid (∀ (k : Nat), k < 4 → ∀ w1, Calls Try.prog 159 #[.int .i64 (S : Int), .int .i64 (k : Int)] w1 fun e w' => e = .returned (.int .i64 ((S / 2 ^ k % 2 : Nat) : Int)) ∧ w1 = w') := Lib.hid (fun k hk w1 => Sbit4_any S k hS hk w1)
  have H4 : Hid (∀ k, (ch (ts.take k) S).length ≤ 4) := Lib.hid (fun k => ch_len4 (by omega) S k)
  have HN := Lib.hid hn
  clear hn
  obtain ⟨i0, hi, hz0, hz1, hz2⟩ := info_parts intsU_info
  go_enter Try.func125, Try.ntmps125
  go_wp2_with fail
  go_loopw [5, 6] (fun v iv wr => ∃ (k m : Nat) (A1 : Option Addr) (c1 : Nat) (vs : List Value), k ≤ n ∧ iv = .int .i64 (k : Int) ∧ v = .slice A1 m c1 ∧ Hid (m = (ch (ts.take k) S).length) ∧ Hid (wr.ownsRow w.heap.size 26 1 (.slice A1 m c1) m vs) ∧ Hid (RowsV w vs (ch (ts.take k) S)) ∧ Hid (Below w.heap.size w wr)) (fun _ iv _ => n - (intOf iv).toNat)
  case atStart => exact ⟨0, 0, _, _, [], by omega, rfl, rfl, Lib.hid (by simp [ch]), Lib.hid (row_empty w), Lib.hid (by simp [ch]; exact RowsV.nil w), Lib.hid ((Below.refl _ w).alloc (Nat.le_refl _) _)⟩
  case round =>
    obtain ⟨k, m, A1, c1, vs, hk, rfl, rfl, HM, HO, HV, HB⟩ := hrel
    by_cases hlt : k < n
    · obtain ⟨b, off, t, A', c', rfl, ht, hc, hcap, hrd⟩ := (h.below HB.out).at_ (k := k) (by rw [HN.out]; exact hlt)
      have hc0 := h.at_ (k := k) (by rw [HN.out]; exact hlt)
      have hm4 : m ≤ 4 := by rw [HM.out]; exact H4.out k
      by_cases hb : S / 2 ^ k % 2 = 1
      · have HK := Lib.hid (HBI.out k (by omega))
        rw [hb] at HK
        have HCH := Lib.hid (ch_yes ht.out hb)
        have HR1 : Hid (Row1 w (.slice A' t.length c') t) := Lib.hid (by
          obtain ⟨b0, off0, t0, A0, c0, e0, ht0, hc0', hcap0, hrd0⟩ := hc0
          cases e0
          have e1 : t0 = t := by have h1 := ht0.out; rw [ht.out] at h1; cases h1; rfl
          subst e1
          have h2 := (HB.out.cell (p := ⟨b, off + k, none⟩) (World.block_lt_of_cell? w _ hc0')).trans hc0'
          rw [hc] at h2
          cases h2
          exact ⟨A', c', rfl, hcap0.out, hrd0.out⟩)
        have hSz : w.heap.size ≤ wr.heap.size + 1 := by have := HB.out.size; omega
        have HT := Lib.hid (own_len HO.out ((Below.refl _ wr).alloc (Nat.le_refl _) (.cells #[.slice A' t.length c'] 26)))
        have HBA : Hid (Below w.heap.size w (wr.alloc (.cells #[.slice A' t.length c'] 26))) := Lib.hid (HB.out.alloc HB.out.size _)
        have hb63 : m + 1 ≤ maxLen := by unfold maxLen; omega
        clear hc0 hb ht hcap hrd
        go_wp2_with (first
          | (go_at_call 159; refine (HK.out _).mono ?_; rintro e w1 ⟨rfl, rfl⟩)
          | (at_builtin; (refine wpList_append_own _ rfl _ _ 23 rfl w.heap.size 26 i0 (.slice none 0 0) 1 24 Try.underlying23 hi hz0 hz1 hz2 rfl (by decide) (.slice A1 m c1) m vs rfl HT.out ⟨wr.heap.size, 0, none⟩ 1 1 [.slice A' t.length c'] rfl rfl (cell_one_new _ _ _) (by simp [Value.oneCell']) hb63 (by omega) (by simpa using hSz) ?_; intro v5 w5 hown5 hg5 _)))
        obtain ⟨A5, c5, rfl⟩ := rowv_shape hown5
        have HO5 := Lib.hid hown5
        have HB5 : Hid (Below w.heap.size w w5) := Lib.hid (HBA.out.grown hg5 (by simpa using hSz) (fun q e => (World.ownsRow.lt HO.out q e).1))
        have HV5 : Hid (RowsV w (vs ++ [.slice A' t.length c']) (ch (ts.take (k + 1)) S)) := Lib.hid (by rw [HCH.out]; exact HV.out.more HR1.out)
        have HM5 : Hid (m + 1 = (ch (ts.take (k + 1)) S).length) := Lib.hid (by rw [HCH.out, List.length_append, ← HM.out]; rfl)
        clear hown5 hg5
        go_roundw
        case rel => exact ⟨k + 1, m + 1, A5, c5, _, hlt, by go_num, rfl, HM5, HO5, HV5, HB5⟩
        case measure => simp [intOf]; omega
      · have HK := Lib.hid (HBI.out k (by omega))
        have hb0 : S / 2 ^ k % 2 = 0 := by omega
        rw [hb0] at HK
        have HCH := Lib.hid (ch_no ht.out hb)
        clear hc0 hb hb0 ht hcap hrd
        go_wp2_with (go_at_call 159; refine (HK.out _).mono ?_; rintro e w1 ⟨rfl, rfl⟩)
        go_roundw
        case rel => exact ⟨k + 1, m, A1, c1, vs, hlt, by go_num, rfl, Lib.hid (by rw [HCH.out]; exact HM.out), HO, Lib.hid (by rw [HCH.out]; exact HV.out), HB⟩
        case measure => simp [intOf]; omega
    · obtain rfl : k = n := by omega
      have hm := HM.out
      have hv := HV.out
      rw [← HN.out, List.take_length] at hm hv
      subst hm
      have HV2 := Lib.hid hv
      clear hv HM HV
      go_wp2
      go_ret
      exact ⟨A1, c1, vs, rfl, HO.out, HV2.out, HB.out⟩

end Go.Proofs.Ytccbjgajmjcpjab
