/-
  The exact laws' helpers for lists of rows: copied.
-/
import Derived.Test.YtnojlapjkdihmabG04
namespace Go.Proofs.Ytnojlapjkdihmab
open Go.RowKit

/-- 'make([][]int, n)': n nil rows in a block of the call's own. -/
theorem wpList_make_rows {ops : Array Oper} {rest : List Oper} {o : Oper} {a : Act} {w : World} {Q : Exit → Act → World → Prop} (hg : o.guard = none) (l c : Operand)
    (hop : o.op = Op.makeSlice 22 l c) (base n : Nat) (hl : a.eval l = .int .i64 (n : Int)) (hc : a.eval c = .int .i64 (n : Int)) (hn : n ≤ 1099511627776) (hb : base ≤ w.heap.size)
    (hK : ∀ w', w'.ownsRow base 39 1 (.slice (some ⟨w.heap.size, 0, none⟩) n n) n (List.replicate n (.slice none 0 0)) → Below base w w' → wpList Try.prog ops Q rest (a.put o.dst (.slice (some ⟨w.heap.size, 0, none⟩) n n)) w') :
    wpList Try.prog ops Q (o :: rest) a w := by
  obtain ⟨i0, hi, hz0, hz1, hz2⟩ := info_parts intsU_info
  refine wpList_make_full w hg l c 22 hop base 39 i0 (.slice none 0 0) 1 Try.underlying22 hi hz0 hz1 .i64 .i64 n n n hl hc rfl rfl (by rw [hz2]; omega) (by unfold maxLen; omega) hb ?_
  intro w' h1 h2
  refine hK w' ?_ ((Below.refl base w).grown h2 hb (fun k h => by cases h))
  simpa [toList_madeCells_one, Value.cells] using h1

/-- What toIntSS hands back: own rows. -/
def RowsIs (w : World) (rows : List (List Int)) (e : Ending) (w' : World) : Prop :=
  ∃ v ps, e = .returned v ∧ RowsU w' w.heap.size v ps ∧ ps.map (·.2.2) = rows ∧ Below w.heap.size w w'

theorem part_set {ps : List (Nat × Nat × List Int)} {p : Nat × Nat × List Int} {n k : Nat} (hk : ps.length = k) (hkn : k < n) :
    (ps.map slU ++ List.replicate (n - k) (Value.slice none 0 0)).set k (slU p) = (ps ++ [p]).map slU ++ List.replicate (n - (k + 1)) (Value.slice none 0 0) := by
  subst hk
  obtain ⟨m, hm⟩ : ∃ m, n - ps.length = m + 1 := ⟨n - ps.length - 1, by omega⟩
  rw [hm, show n - (ps.length + 1) = m by omega, List.set_append, if_neg (by rw [List.length_map]; omega), List.length_map, Nat.sub_self, List.replicate_succ, List.set_cons_zero, List.map_append]
  simp

set_option maxHeartbeats 1000000 in
theorem toIntSS_any (A : Option Addr) (c : Nat) (rows : List (List Int)) (w : World) (hR : RdR w A c rows) (hs : szR rows ≤ 1048576) :
    Calls Try.prog 13 #[.slice A rows.length c] w (RowsIs w rows) := by
  have hl : rows.length ≤ 1048576 := by unfold szR at hs; omega
  have HS := Lib.hid hs
  have HR := Lib.hid hR
  clear hs hR
  go_enter Try.func13, Try.ntmps13
  go_wp2_with (at_make; refine wpList_make_rows rfl _ _ rfl w.heap.size rows.length rfl rfl (by omega) (by simp) ?_; intro w2 ho hb)
  obtain ⟨S, hS⟩ : ∃ S, S = w.heap.size := ⟨_, rfl⟩
  have HO : Hid (w2.ownsRow w.heap.size 39 1 (.slice (some ⟨S, 0, none⟩) rows.length rows.length) rows.length (([] : List (Nat × Nat × List Int)).map slU ++ List.replicate (rows.length - 0) (.slice none 0 0))) := Lib.hid (by rw [hS]; simpa using ho)
  rw [← hS]
  have HSS := Lib.hid hS
  clear ho hS
  go_loopw [4] (fun i wr => ∃ (k : Nat) (ps : List (Nat × Nat × List Int)), k ≤ rows.length ∧ i = .int .i64 k ∧ Hid (ps.length = k) ∧ Hid (wr.ownsRow w.heap.size 39 1 (.slice (some ⟨S, 0, none⟩) rows.length rows.length) rows.length (ps.map slU ++ List.replicate (rows.length - k) (.slice none 0 0))) ∧
      Hid (∀ p ∈ ps, Own wr w.heap.size (some ⟨p.1, 0, none⟩) p.2.1 p.2.2) ∧ Hid ((ps.map (·.1)).Nodup) ∧ Hid (ps.map (·.2.2) = rows.take k) ∧ Hid (∀ p ∈ ps, S < p.1) ∧ Below w.heap.size w wr) (fun i _ => rows.length - (intOf i).toNat)
  case atStart => exact ⟨0, [], Nat.zero_le _, rfl, Lib.hid rfl, HO, Lib.hid (fun _ h => absurd h (by simp)), Lib.hid (by simp), Lib.hid (by simp), Lib.hid (fun _ h => absurd h (by simp)), hb⟩
  case round =>
    obtain ⟨k, ps, hk, rfl, HPL, HO, HE, HND, HM, HLT, hb⟩ := hrel
    by_cases hlt : k < rows.length
    · obtain ⟨b, off, r, A', c', rfl, hr, hc0, hcap, hrd⟩ := HR.out.at_ hlt
      have hc := (hb.cell (p := ⟨b, off + k, none⟩) (World.block_lt_of_cell? w _ hc0)).trans hc0
      have hrl : r.length ≤ 1048576 := by
        have h1 := flat_take hr.out
        have h2 := flat_le (rows := rows) (k + 1)
        have h3 := HS.out
        unfold szR at h3
        omega
      have HT := Lib.hid (toIntS_any A' c' r wr (hrd.out.below hb) (by omega))
      clear hc0
      go_wp2_with fail
      refine HT.out.mono ?_
      rintro e w5 ⟨g5, c5, rfl, o5, b5⟩
      have B5 := hb.trans (b5.mono hb.size)
      have o5row := own_len HO.out b5
      have hSl : S < wr.heap.size := (World.ownsRow.lt HO.out S rfl).2
      have hg5 := o5.ge
      have hcell : ∃ x, w5.cell? ⟨S, k, none⟩ = some x := by
        have := World.ownsRow.cellAt o5row k (by omega)
        rw [List.getElem?_append_right (by rw [List.length_map, HPL.out]; exact Nat.le_refl _), List.length_map, HPL.out, Nat.sub_self] at this
        exact ⟨_, this.trans (by rw [List.getElem?_replicate, if_pos (by omega)])⟩
      obtain ⟨x, hcx⟩ := hcell
      have hfr := World.ownsRow.frozenAt o5row k
      have hst := World.ownsRow.stored o5row k (slU (g5, c5, r))
      rw [part_set HPL.out hlt] at hst
      have HST := Lib.hid hst.1
      have HES : Hid (∀ p ∈ ps ++ [(g5, c5, r)], Own (w5.setCell ⟨S, k, none⟩ (slU (g5, c5, r))) w.heap.size (some ⟨p.1, 0, none⟩) p.2.1 p.2.2) := Lib.hid (by
        intro p hp
        rcases List.mem_append.1 hp with hp | hp
        · exact ((HE.out p hp).below b5).kept_ (A2 := some ⟨S, 0, none⟩) hst.2 (.inr (fun e => by have h1 := Option.some.inj e; have h2 := HLT.out p hp; simp at h1; omega))
        · obtain rfl : p = (g5, c5, r) := by simpa using hp
          exact (o5.base hb.size).kept_ (A2 := some ⟨S, 0, none⟩) hst.2 (.inr (fun e => by have h1 := Option.some.inj e; simp at h1; omega)))
      have HNS : Hid (((ps ++ [(g5, c5, r)]).map (·.1)).Nodup) := Lib.hid (by
        rw [List.map_append, List.nodup_append]
        refine ⟨HND.out, by simp, ?_⟩
        intro a ha b' hb' hab
        simp at hb'
        subst hb' hab
        obtain ⟨p, hp, rfl⟩ := List.mem_map.1 ha
        have := (HE.out p hp).lt
        omega)
      have HMS : Hid ((ps ++ [(g5, c5, r)]).map (·.2.2) = rows.take (k + 1)) := Lib.hid (by rw [List.take_add_one, hr.out, List.map_append, HM.out]; rfl)
      have HLS : Hid (∀ p ∈ ps ++ [(g5, c5, r)], S < p.1) := Lib.hid (by
        intro p hp
        rcases List.mem_append.1 hp with hp | hp
        · exact HLT.out p hp
        · obtain rfl : p = (g5, c5, r) := by simpa using hp
          show S < g5
          omega)
      have HPS : Hid ((ps ++ [(g5, c5, r)]).length = k + 1) := Lib.hid (by rw [List.length_append, HPL.out]; rfl)
      have HBS : Hid (Below w.heap.size w (w5.setCell ⟨S, k, none⟩ (slU (g5, c5, r)))) := Lib.hid (B5.setCell (p := ⟨S, k, none⟩) (by rw [HSS.out]; exact Nat.le_refl _) _)
      clear o5 b5 B5 o5row hst
      go_wp2
      go_roundw
      case rel => exact ⟨k + 1, _, by omega, by go_num, HPS, HST, HES, HNS, HMS, HLS, HBS.out⟩
      case measure => simp [intOf]; omega
    · obtain rfl : k = rows.length := by omega
      have HOF : Hid (wr.ownsRow w.heap.size 39 1 (.slice (some ⟨S, 0, none⟩) ps.length rows.length) ps.length (ps.map slU)) := Lib.hid (by
        have h1 := HO.out
        rw [Nat.sub_self, List.replicate_zero, List.append_nil] at h1
        rw [HPL.out]
        exact h1)
      have HMF : Hid (ps.map (·.2.2) = rows) := Lib.hid (by rw [HM.out, List.take_length])
      have HVE : Hid (Value.slice (some ⟨S, 0, none⟩) ps.length rows.length = .slice (some ⟨S, 0, none⟩) rows.length rows.length) := Lib.hid (by rw [HPL.out])
      go_wp2
      go_ret
      exact ⟨_, ps, by rw [← HVE.out]; rfl, ⟨HOF.out, HE.out, HND.out⟩, HMF.out, hb⟩

end Go.Proofs.Ytnojlapjkdihmab
