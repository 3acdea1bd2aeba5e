/-
  Rows of numbers that are drawn: one more, one in place of another.
-/
import Derived.Test.YtpildecpabeanaaG32
import Derived.Test.YtpildecpabeanaaG29
import Derived.Test.YtpildecpabeanaaG00
import Derived.BigQuiet
namespace Go.Proofs.Ytpildecpabeanaa
open Go.RowKit

theorem RowsU.more {w w1 : World} {B : Nat} {v v' : Value} {ps : List (Nat × Nat × List Int)} {p : Nat × Nat × List Int} {tmp : Obj} (h : RowsU w B v ps) (ho : Own w B (some ⟨p.1, 0, none⟩) p.2.1 p.2.2) (hn : p.1 ∉ ps.map (·.1))
    (hown : w1.ownsRow B 23 1 v' (ps.length + 1) (ps.map slU ++ [slU p])) (hg : (w.alloc tmp).grownBy w1 v.ownBlock) : RowsU w1 B v' (ps ++ [p]) := by
  have hk : ∀ q : Nat × Nat × List Int, Own w B (some ⟨q.1, 0, none⟩) q.2.1 q.2.2 → Own w1 B (some ⟨q.1, 0, none⟩) q.2.1 q.2.2 := by
    intro q hq
    have h1 := World.ownsRow.kept (show (w.alloc tmp).ownsRow B 3 1 _ _ _ from hq.below ((Below.refl _ w).alloc (Nat.le_refl _) tmp)) hg (.inr (by
      have := rowU_apart h.row hq
      simp only [Value.ownBlock]
      exact fun e => this e.symm))
    exact h1
  refine ⟨by simpa using hown, ?_, ?_⟩
  · intro q hq
    rcases List.mem_append.1 hq with hq | hq
    · exact hk q (h.each q hq)
    · obtain rfl : q = p := by simpa using hq
      exact hk q ho
  · rw [List.map_append, List.nodup_append]
    refine ⟨h.nodup, by simp, ?_⟩
    intro a ha b hb hab
    simp at hb
    subst hb hab
    exact hn ha
/-- The first row another. -/
theorem RowsU.put {w : World} {B g c : Nat} {p q : Nat × Nat × List Int} {rs : List (Nat × Nat × List Int)} (h : RowsU w B (.slice (some ⟨g, 0, none⟩) (p :: rs).length c) (p :: rs)) (ho : Own w B (some ⟨q.1, 0, none⟩) q.2.1 q.2.2) (hn : q.1 ∉ (p :: rs).map (·.1)) :
    RowsU (w.setCell ⟨g, 0, none⟩ (slU q)) B (.slice (some ⟨g, 0, none⟩) (p :: rs).length c) (q :: rs) := by
  have hst := World.ownsRow.stored h.row 0 (slU q)
  have hap : ∀ r : Nat × Nat × List Int, Own w B (some ⟨r.1, 0, none⟩) r.2.1 r.2.2 → Own (w.setCell ⟨g, 0, none⟩ (slU q)) B (some ⟨r.1, 0, none⟩) r.2.1 r.2.2 := fun r hr => by
    have := rowU_apart h.row hr
    exact hr.kept_ (A2 := some ⟨g, 0, none⟩) hst.2 (.inr (fun e => this e.symm))
  refine ⟨by simpa using hst.1, fun r hr => ?_, ?_⟩
  · rcases List.mem_cons.1 hr with rfl | hr
    · exact hap _ ho
    · exact hap _ (h.each r (by simp [hr]))
  · have h1 := h.nodup
    rw [List.map_cons, List.nodup_cons] at h1 ⊢
    exact ⟨fun hm => hn (by rw [List.map_cons]; exact List.mem_cons_of_mem _ hm), h1.2⟩
theorem RowsU.ask {w w' : World} {rb B : Nat} {v : Value} {ps : List (Nat × Nat × List Int)} (h : RowsU w B v ps) (hg : w.grownBy w' (some rb)) (hB : rb < B) : RowsU w' B v ps :=
  h.kept hg (fun e => by have := (World.ownsRow.lt h.row rb e).1; omega) (fun p hp e => by have := (h.each p hp).ge; omega)
theorem RowsU.notIn {w w0 : World} {B B' g c : Nat} {v : Value} {zs : List Int} {ps : List (Nat × Nat × List Int)} (h : RowsU w0 B v ps) (hs : w0.heap.size ≤ B') (ho : Own w B' (some ⟨g, 0, none⟩) c zs) : g ∉ ps.map (·.1) := by
  intro hg
  obtain ⟨p, hp, rfl⟩ := List.mem_map.1 hg
  have h1 := (h.each p hp).lt
  have h2 := ho.ge
  omega
theorem RowsU.one {w : World} {B : Nat} {v : Value} {ps : List (Nat × Nat × List Int)} (h : RowsU w B v ps) (hp : 1 ≤ ps.length) : ∃ g c, v = .slice (some ⟨g, 0, none⟩) ps.length c := by
  rcases h.shape with ⟨rfl, _⟩ | ⟨g, c, hv, _⟩
  · simp at hp
  · exact ⟨g, c, hv⟩

theorem rowr_empty (w : World) : (w.alloc (.cells #[] 23)).ownsRow w.heap.size 23 1 (.slice (some ⟨w.heap.size, 0, none⟩) 0 0) 0 [] := World.ownsRow_lit w #[] 0 (Nat.le_refl _) (Nat.zero_le _) rfl
theorem rowsU_empty (w : World) : RowsU (w.alloc (.cells #[] 23)) w.heap.size (.slice (some ⟨w.heap.size, 0, none⟩) 0 0) [] := ⟨rowr_empty w, fun _ h => absurd h (by simp), by simp⟩

theorem Own.alloc_ {w : World} {B : Nat} {A : Option Addr} {c : Nat} {xs : List Int} (h : Own w B A c xs) (o : Obj) : Own (w.alloc o) B A c xs := World.ownsRow.alloc h o

end Go.Proofs.Ytpildecpabeanaa

/-
  The generators of the laws of chapter 4: tables.
-/
namespace Go.Proofs.Ytpildecpabeanaa
open Go.RowKit Go.Lib

/-- What is drawn: tables, of at most eight numbers each. -/
def TablesIs (w : World) (rb k : Nat) (e : Ending) (w' : World) : Prop :=
  ∃ v ps, e = .returned v ∧ RowsU w' w.heap.size v ps ∧ ps.length ≤ 4 ∧ (∀ p ∈ ps, p.2.2.length ≤ 8) ∧ Rdr w' rb k ∧ w.grownBy w' (some rb)

def lenW : Value → Nat
  | .slice _ n _ => n
  | _ => 0

set_option maxHeartbeats 4000000 in
set_option maxRecDepth 100000 in
theorem someTables_any (rb k : Nat) (w : World) (h : Rdr w rb k) (hk : k + 250 ≤ 1000000) :
    Calls Try.prog 72 #[.pointer (some ⟨rb, 0, none⟩), .int .i64 4] w (TablesIs w rb (k + 170)) := by
  obtain ⟨i0, hi, hz0, hz1, hz2⟩ := info_parts intsU_info
  have hl := h.lt
  have HE := Lib.hid (rowsU_empty w)
  have HL : Hid (Own ((w.alloc (.cells #[] 23)).alloc (.cells #[.int .i64 2, .int .i64 3, .int .i64 2, .int .i64 1, .int .i64 0, .int .i64 4] 3)) (w.heap.size + 1) (some ⟨w.heap.size + 1, 0, none⟩) 6 [2, 3, 2, 1, 0, 4]) := Lib.hid (by
    have := own_lit (w.alloc (.cells #[] 23)) [2, 3, 2, 1, 0, 4] (by decide)
    rw [World.size_alloc] at this
    exact this)
  have HR := Lib.hid ((h.alloc (.cells #[] 23)).alloc (.cells #[.int .i64 2, .int .i64 3, .int .i64 2, .int .i64 1, .int .i64 0, .int .i64 4] 3))
  have HG : Hid (w.grownBy ((w.alloc (.cells #[] 23)).alloc (.cells #[.int .i64 2, .int .i64 3, .int .i64 2, .int .i64 1, .int .i64 0, .int .i64 4] 3)) (some rb)) := Lib.hid (gb_alloc (World.grownBy_alloc w _ (some rb)) _)
  have HO : Hid (RowsU ((w.alloc (.cells #[] 23)).alloc (.cells #[.int .i64 2, .int .i64 3, .int .i64 2, .int .i64 1, .int .i64 0, .int .i64 4] 3)) w.heap.size (.slice (some ⟨w.heap.size, 0, none⟩) 0 0) []) := Lib.hid (HE.out.below ((Below.refl _ _).alloc (Nat.le_refl _) _))
  have hl2 : w.heap.size + 1 ≠ rb := by omega
  clear HE
  go_enter Try.func72, Try.ntmps72
  go_wp2_with fail
  refine (one_any rb k (w.heap.size + 1) 6 6 (w.heap.size + 1) [2, 3, 2, 1, 0, 4] _ rfl HR.out HL.out hl2 (by decide) (by decide) (by omega)).mono ?_
  rintro e w1 ⟨most, hmo, rfl, hr1, hg1⟩
  have hm0 : 0 ≤ most := by simp only [List.mem_cons, List.not_mem_nil, or_false] at hmo; omega
  have hm1 : most ≤ 4 := by simp only [List.mem_cons, List.not_mem_nil, or_false] at hmo; omega
  have ho1 := HO.out.ask hg1 hl
  have gg1 := HG.out.trans hg1
  obtain ⟨S, hS⟩ : ∃ S, S = w.heap.size := ⟨_, rfl⟩
  have HSS := Lib.hid hS
  rw [← hS] at ho1 hl
  clear hmo HR HG HO HL hg1 hl2
  go_wp2_with fail
  rw [← hS]
  clear hS
  go_loopw [5] (fun v wr => ∃ (ps : List (Nat × Nat × List Int)), ps.length ≤ 4 ∧ (∃ g c, v = .slice (some ⟨g, 0, none⟩) ps.length c) ∧ Hid (∀ p ∈ ps, p.2.2.length ≤ 8) ∧ RowsU wr S v ps ∧ Rdr wr rb (k + 1 + 30 * ps.length) ∧ w.grownBy wr (some rb))
    (fun v _ => 4 - lenW v)
  case atStart => exact ⟨[], Nat.zero_le _, ⟨S, 0, rfl⟩, Lib.hid (fun _ h => absurd h (by simp)), ho1, hr1, gg1⟩
  case round =>
    obtain ⟨ps, hps, ⟨g, c, rfl⟩, HP, hR, hr, hg⟩ := hrel
    by_cases hlt : (ps.length : Int) < most
    · have hp4 : ps.length < 4 := by omega
      have HRW := Lib.hid hR
      go_wp2_with fail
      refine (goodTable_any rb (k + 1 + 30 * ps.length) wr hr (by omega)).mono ?_
      rintro e w2 ⟨g2, c2, ys, rfl, hy8, _, o2, hr2, hg2⟩
      have hy : ys.length ≤ 8 := by omega
      have e8 : slU (g2, c2, ys) = .slice (some ⟨g2, 0, none⟩) 8 c2 := by show Value.slice _ ys.length _ = _; rw [hy8]
      have E8 := Lib.hid e8
      clear hy8
      have hR2 := HRW.out.ask hg2 hl
      have gg2 := hg.trans hg2
      have hnot := HRW.out.notIn (Nat.le_refl _) o2
      have HN := Lib.hid hnot
      have hS2 : S ≤ wr.heap.size := by rw [HSS.out]; exact hg.size
      have HT := Lib.hid (own_len hR2.row ((Below.refl _ w2).alloc (Nat.le_refl _) (.cells #[.slice (some ⟨g2, 0, none⟩) 8 c2] 23)))
      have hb63 : ps.length + 1 ≤ maxLen := by unfold maxLen; omega
      have hSz : S ≤ w2.heap.size + 1 := by have := hg2.size; omega
      clear hR hnot e8
      go_wp2_with (at_builtin; (refine wpList_append_own _ rfl _ _ 35 rfl S 23 i0 (.slice none 0 0) 1 24 Try.underlying35 hi hz0 hz1 hz2 rfl (by decide) (.slice (some ⟨g, 0, none⟩) ps.length c) ps.length (ps.map slU) rfl HT.out ⟨w2.heap.size, 0, none⟩ 1 1 [.slice (some ⟨g2, 0, none⟩) 8 c2] rfl rfl (cell_one_new _ _ _) (by simp [Value.oneCell']) hb63 (by omega) (by simpa using hSz) ?_; intro v5 w5 hown5 hg5 _))
      rw [← E8.out] at hown5
      have R5 : RowsU w5 S v5 (ps ++ [(g2, c2, ys)]) := hR2.more (p := (g2, c2, ys)) (o2.base hS2) HN.out hown5 hg5
      have hgeg : S ≤ g := (World.ownsRow.lt hR2.row g rfl).1
      have hr5 := (hr2.alloc (.cells #[.slice (some ⟨g2, 0, none⟩) 8 c2] 23)).grown (g := g) hg5 (by omega)
      have gg5 := gb_new (g := g) (gb_alloc gg2 (.cells #[.slice (some ⟨g2, 0, none⟩) 8 c2] 23)) hg5 (by rw [← HSS.out]; exact hgeg)
      obtain ⟨g5, c5, rfl⟩ := R5.one (by simp)
      have HP5 : Hid (∀ p ∈ ps ++ [(g2, c2, ys)], p.2.2.length ≤ 8) := Lib.hid (by
        intro p hp
        rcases List.mem_append.1 hp with hp | hp
        · exact HP.out p hp
        · obtain rfl : p = (g2, c2, ys) := by simpa using hp
          exact hy)
      have hlp : (ps ++ [(g2, c2, ys)]).length = ps.length + 1 := by simp
      have HLP := Lib.hid hlp
      clear hown5 hg5 hR2 HT o2 hlp
      go_roundw
      case rel => exact ⟨ps ++ [(g2, c2, ys)], by rw [HLP.out]; omega, ⟨g5, c5, rfl⟩, HP5, R5, hr5.more (by rw [HLP.out]; omega), gg5⟩
      case measure => simp [lenW]; omega
    · cases ps with
      | nil =>
        have hz : ¬ (0 : Int) < (([] : List (Nat × Nat × List Int)).length : Int) := by simp
        have HR0 := Lib.hid hR
        clear hR
        go_wp2
        go_ret
        exact ⟨_, [], rfl, HR0.out.base (by rw [HSS.out]; exact Nat.le_refl _), by simp, (fun _ h => absurd h (by simp)), hr.more (by simp), hg⟩
      | cons p rs =>
        obtain ⟨L, hL⟩ : ∃ L, L = (p :: rs).length := ⟨_, rfl⟩
        have hL0 : (0 : Int) < (L : Int) := by rw [hL]; simp
        have HLL := Lib.hid hL
        rw [← hL] at hr hps hlt ⊢
        have HRW := Lib.hid hR
        have hR' := hR
        rw [← hL] at hR'
        clear hR hL hR'
        go_wp2_with fail
        refine (pick_any rb (k + 1 + 30 * L) 40 wr hr (by omega) (by decide) (by decide)).mono ?_
        rintro e w2 ⟨m, rfl, hm2, _, hr2, hg2⟩
        have gg2 := hg.trans hg2
        have hR2 := HRW.out.ask hg2 hl
        by_cases hm : m = 0
        · have hmb : (m == 0) = true := by simpa using hm
          clear hm
          go_wp2_with fail
          refine (someTable_any rb (k + 1 + 30 * L + 1) w2 hr2 (by omega)).mono ?_
          rintro e w3 ⟨g3, c3, zs, rfl, hz8, o3, hr3, hg3⟩
          have hR3 := hR2.ask hg3 hl
          have gg3 := gg2.trans hg3
          have hS2 : S ≤ w2.heap.size := by rw [HSS.out]; exact gg2.size
          have HN3 := Lib.hid (hR2.notIn (Nat.le_refl _) o3)
          have hc0 : w3.cell? ⟨g, 0, none⟩ = some (slU p) := World.ownsRow.cellAt hR3.row 0 (by simp)
          have hf0 : w3.frozen? ⟨g, 0, none⟩ = false := World.ownsRow.frozenAt hR3.row 0
          have HPUT := Lib.hid (hR3.put (q := (g3, c3, zs)) (o3.base hS2) HN3.out)
          have hSg : S ≤ g := (World.ownsRow.lt hR3.row g rfl).1
          have HR4 := Lib.hid (hr3.set_ (g := g) (i := 0) (v := slU (g3, c3, zs)) (by omega))
          have HG4 := Lib.hid (gb_set (g := g) (i := 0) (v := slU (g3, c3, zs)) gg3 (by rw [← HSS.out]; exact hSg))
          have HQ : Hid (∀ q ∈ ((g3, c3, zs) :: rs), q.2.2.length ≤ 8) := Lib.hid (fun q hq => by
            rcases List.mem_cons.1 hq with rfl | hq
            · exact hz8
            · exact HP.out q (by simp [hq]))
          clear hR2 hR3 o3 hg3
          go_wp2
          go_ret
          exact ⟨_, (g3, c3, zs) :: rs, by rw [HLL.out]; rfl, HPUT.out.base (by rw [HSS.out]; exact Nat.le_refl _), by have := HLL.out; simp at this ⊢; omega, HQ.out, HR4.out.more (by omega), HG4.out⟩
        · have hmb : (m == 0) = false := by simpa using hm
          have HRF := Lib.hid (hR2.base (B' := w.heap.size) (by rw [HSS.out]; exact Nat.le_refl _))
          clear hm hR2
          go_wp2
          go_ret
          exact ⟨_, p :: rs, by rw [HLL.out]; rfl, HRF.out, by rw [← HLL.out]; exact hps, HP.out, hr2.more (by omega), gg2⟩

end Go.Proofs.Ytpildecpabeanaa

/-
  The generators of the laws of chapters 4 and 5: tables of bidders whose things may be moved.
-/
namespace Go.Proofs.Ytpildecpabeanaa
open Go.RowKit Go.Lib

set_option maxHeartbeats 4000000 in
set_option maxRecDepth 100000 in
theorem easyTables_any (rb k : Nat) (w : World) (h : Rdr w rb k) (hk : k + 250 ≤ 1000000) :
    Calls Try.prog 73 #[.pointer (some ⟨rb, 0, none⟩)] w (TablesIs w rb (k + 170)) := by
  obtain ⟨i0, hi, hz0, hz1, hz2⟩ := info_parts intsU_info
  have hl := h.lt
  have HE := Lib.hid (rowsU_empty w)
  have HL : Hid (Own ((w.alloc (.cells #[] 23)).alloc (.cells #[.int .i64 2, .int .i64 3, .int .i64 1, .int .i64 2] 3)) (w.heap.size + 1) (some ⟨w.heap.size + 1, 0, none⟩) 4 [2, 3, 1, 2]) := Lib.hid (by
    have := own_lit (w.alloc (.cells #[] 23)) [2, 3, 1, 2] (by decide)
    rw [World.size_alloc] at this
    exact this)
  have HR := Lib.hid ((h.alloc (.cells #[] 23)).alloc (.cells #[.int .i64 2, .int .i64 3, .int .i64 1, .int .i64 2] 3))
  have HG : Hid (w.grownBy ((w.alloc (.cells #[] 23)).alloc (.cells #[.int .i64 2, .int .i64 3, .int .i64 1, .int .i64 2] 3)) (some rb)) := Lib.hid (gb_alloc (World.grownBy_alloc w _ (some rb)) _)
  have HO : Hid (RowsU ((w.alloc (.cells #[] 23)).alloc (.cells #[.int .i64 2, .int .i64 3, .int .i64 1, .int .i64 2] 3)) w.heap.size (.slice (some ⟨w.heap.size, 0, none⟩) 0 0) []) := Lib.hid (HE.out.below ((Below.refl _ _).alloc (Nat.le_refl _) _))
  have hl2 : w.heap.size + 1 ≠ rb := by omega
  clear HE
  go_enter Try.func73, Try.ntmps73
  go_wp2_with fail
  refine (one_any rb k (w.heap.size + 1) 4 4 (w.heap.size + 1) [2, 3, 1, 2] _ rfl HR.out HL.out hl2 (by decide) (by decide) (by omega)).mono ?_
  rintro e w1 ⟨most, hmo, rfl, hr1, hg1⟩
  have hm0 : 0 ≤ most := by simp only [List.mem_cons, List.not_mem_nil, or_false] at hmo; omega
  have hm1 : most ≤ 4 := by simp only [List.mem_cons, List.not_mem_nil, or_false] at hmo; omega
  have ho1 := HO.out.ask hg1 hl
  have gg1 := HG.out.trans hg1
  obtain ⟨S, hS⟩ : ∃ S, S = w.heap.size := ⟨_, rfl⟩
  have HSS := Lib.hid hS
  rw [← hS] at ho1 hl
  clear hmo HR HG HO HL hg1 hl2
  go_wp2_with fail
  rw [← hS]
  clear hS
  go_loopw [3] (fun v wr => ∃ (ps : List (Nat × Nat × List Int)), ps.length ≤ 4 ∧ (∃ g c, v = .slice (some ⟨g, 0, none⟩) ps.length c) ∧ Hid (∀ p ∈ ps, p.2.2.length ≤ 8) ∧ RowsU wr S v ps ∧ Rdr wr rb (k + 1 + 30 * ps.length) ∧ w.grownBy wr (some rb))
    (fun v _ => 4 - lenW v)
  case atStart => exact ⟨[], Nat.zero_le _, ⟨S, 0, rfl⟩, Lib.hid (fun _ h => absurd h (by simp)), ho1, hr1, gg1⟩
  case round =>
    obtain ⟨ps, hps, ⟨g, c, rfl⟩, HP, hR, hr, hg⟩ := hrel
    by_cases hlt : (ps.length : Int) < most
    · have hp4 : ps.length < 4 := by omega
      have HRW := Lib.hid hR
      clear hR
      go_wp2_with fail
      refine (pick_any rb (k + 1 + 30 * ps.length) 2 wr hr (by omega) (by decide) (by decide)).mono ?_
      rintro e w0 ⟨m, rfl, hm2, _, hr0, hg0⟩
      have hSw : S ≤ wr.heap.size := by rw [HSS.out]; exact hg.size
      have hR0 := HRW.out.ask hg0 hl
      have gg0 := hg.trans hg0
      have hs0 := hg0.size
      by_cases hm : m = 0
      · have hmb : (m == 0) = true := by simpa using hm
        clear hm
        go_wp2_with fail
        refine (oneTable_any rb (k + 1 + 30 * ps.length + 1) w0 hr0 (by omega)).mono ?_
        rintro e w2 ⟨g2, c2, ys, rfl, hy8, _, o2', hr2, hg2⟩
        have hR2 := hR0.ask hg2 hl
        have gg2 := gg0.trans hg2
        have HN := Lib.hid (hR0.notIn (Nat.le_refl _) o2')
        have o2 := o2'.base (show S ≤ w0.heap.size by omega)
        have hs2 := hg2.size
        clear o2' hg2 hR0 hmb
        have hy : ys.length ≤ 8 := by omega
        have e8 : slU (g2, c2, ys) = .slice (some ⟨g2, 0, none⟩) 8 c2 := by show Value.slice _ ys.length _ = _; rw [hy8]
        have E8 := Lib.hid e8
        clear hy8
        have HT := Lib.hid (own_len hR2.row ((Below.refl _ w2).alloc (Nat.le_refl _) (.cells #[.slice (some ⟨g2, 0, none⟩) 8 c2] 23)))
        have hb63 : ps.length + 1 ≤ maxLen := by unfold maxLen; omega
        have hSz : S ≤ w2.heap.size + 1 := by omega
        clear e8
        go_wp2_with (at_builtin; (refine wpList_append_own _ rfl _ _ 35 rfl S 23 i0 (.slice none 0 0) 1 24 Try.underlying35 hi hz0 hz1 hz2 rfl (by decide) (.slice (some ⟨g, 0, none⟩) ps.length c) ps.length (ps.map slU) rfl HT.out ⟨w2.heap.size, 0, none⟩ 1 1 [.slice (some ⟨g2, 0, none⟩) 8 c2] rfl rfl (cell_one_new _ _ _) (by simp [Value.oneCell']) hb63 (by omega) (by simpa using hSz) ?_; intro v5 w5 hown5 hg5 _))
        rw [← E8.out] at hown5
        have R5 : RowsU w5 S v5 (ps ++ [(g2, c2, ys)]) := hR2.more (p := (g2, c2, ys)) o2 HN.out hown5 hg5
        have hgeg : S ≤ g := (World.ownsRow.lt hR2.row g rfl).1
        have hr5 := (hr2.alloc (.cells #[.slice (some ⟨g2, 0, none⟩) 8 c2] 23)).grown (g := g) hg5 (by omega)
        have gg5 := gb_new (g := g) (gb_alloc gg2 (.cells #[.slice (some ⟨g2, 0, none⟩) 8 c2] 23)) hg5 (by rw [← HSS.out]; exact hgeg)
        obtain ⟨g5, c5, rfl⟩ := R5.one (by simp)
        have HP5 : Hid (∀ p ∈ ps ++ [(g2, c2, ys)], p.2.2.length ≤ 8) := Lib.hid (by
          intro p hp
          rcases List.mem_append.1 hp with hp | hp
          · exact HP.out p hp
          · obtain rfl : p = (g2, c2, ys) := by simpa using hp
            exact hy)
        have hlp : (ps ++ [(g2, c2, ys)]).length = ps.length + 1 := by simp
        have HLP := Lib.hid hlp
        clear hown5 hg5 hR2 HT o2 hlp
        go_roundw
        case rel => exact ⟨ps ++ [(g2, c2, ys)], by rw [HLP.out]; omega, ⟨g5, c5, rfl⟩, HP5, R5, hr5.more (by rw [HLP.out]; omega), gg5⟩
        case measure => simp [lenW]; omega
      · have hmb : (m == 0) = false := by simpa using hm
        clear hm
        go_wp2_with fail
        refine (oneTable_any rb (k + 1 + 30 * ps.length + 1) w0 hr0 (by omega)).mono ?_
        rintro e wa ⟨ga, ca, ysa, rfl, hla, hpa, oa, hra, hga⟩
        have hlta := hra.lt
        have hRa := hR0.ask hga hl
        have gga := gg0.trans hga
        have hsa := hga.size
        go_wp2_with fail
        refine (oneTable_any rb (k + 1 + 30 * ps.length + 1 + 3) wa hra (by omega)).mono ?_
        rintro e wb ⟨gb, cb, ysb, rfl, hlb, hpb, ob, hrb, hgb⟩
        have hRb := hRa.ask hgb hl
        have ggb := gga.trans hgb
        have hsb := hgb.size
        have oab : Own wb w0.heap.size (some ⟨ga, 0, none⟩) ca ysa := oa.kept_ (A2 := some ⟨rb, 0, none⟩) hgb (.inr (fun e => by have := Option.some.inj e; have h3 := oa.ge; have h4 : ga = rb := this; have h5 := hg.size; rw [HSS.out] at hl; omega))
        have HJ := Lib.hid (SJoinTables_any (some ⟨ga, 0, none⟩) (some ⟨gb, 0, none⟩) ca cb ysa ysb wb oab.rd ob.rd oab.cap.1 ob.cap.1 (by omega) (by omega))
        have HON := Lib.hid (ones_join hpa hpb)
        have HP2 := Lib.hid hpa.1
        have HP3 := Lib.hid hpb.1
        rw [hla, hlb] at HJ
        clear hpa hpb oa ob oab hga hgb hla hlb hmb hR0 hRa
        go_wp2_with fail
        refine HJ.out.mono ?_
        rintro e w2 ⟨hb4, ⟨_, _, _, g2, c2, rfl, o4⟩ | ⟨hno, _⟩⟩
        · obtain ⟨ys, hys⟩ : ∃ ys, ys = jnT ysa ysb := ⟨_, rfl⟩
          have hy8 : ys.length = 8 := by rw [hys]; exact jnT_len _ _
          rw [← hys] at o4
          have gg2 := ggb.trans (gb_of_below hb4 (some rb))
          have hR2 := hRb.below hb4
          have hr2 := hrb.below hb4
          have HN := Lib.hid (hRb.notIn (Nat.le_refl _) o4)
          have o2 := o4.base (show S ≤ wb.heap.size by omega)
          have hs2 := hb4.size
          clear o4 hys HON HP2 HP3 HJ hRb hb4
          have hy : ys.length ≤ 8 := by omega
          have e8 : slU (g2, c2, ys) = .slice (some ⟨g2, 0, none⟩) 8 c2 := by show Value.slice _ ys.length _ = _; rw [hy8]
          have E8 := Lib.hid e8
          clear hy8
          have HT := Lib.hid (own_len hR2.row ((Below.refl _ w2).alloc (Nat.le_refl _) (.cells #[.slice (some ⟨g2, 0, none⟩) 8 c2] 23)))
          have hb63 : ps.length + 1 ≤ maxLen := by unfold maxLen; omega
          have hSz : S ≤ w2.heap.size + 1 := by omega
          clear e8
          go_wp2_with (at_builtin; (refine wpList_append_own _ rfl _ _ 35 rfl S 23 i0 (.slice none 0 0) 1 24 Try.underlying35 hi hz0 hz1 hz2 rfl (by decide) (.slice (some ⟨g, 0, none⟩) ps.length c) ps.length (ps.map slU) rfl HT.out ⟨w2.heap.size, 0, none⟩ 1 1 [.slice (some ⟨g2, 0, none⟩) 8 c2] rfl rfl (cell_one_new _ _ _) (by simp [Value.oneCell']) hb63 (by omega) (by simpa using hSz) ?_; intro v5 w5 hown5 hg5 _))
          rw [← E8.out] at hown5
          have R5 : RowsU w5 S v5 (ps ++ [(g2, c2, ys)]) := hR2.more (p := (g2, c2, ys)) o2 HN.out hown5 hg5
          have hgeg : S ≤ g := (World.ownsRow.lt hR2.row g rfl).1
          have hr5 := (hr2.alloc (.cells #[.slice (some ⟨g2, 0, none⟩) 8 c2] 23)).grown (g := g) hg5 (by omega)
          have gg5 := gb_new (g := g) (gb_alloc gg2 (.cells #[.slice (some ⟨g2, 0, none⟩) 8 c2] 23)) hg5 (by rw [← HSS.out]; exact hgeg)
          obtain ⟨g5, c5, rfl⟩ := R5.one (by simp)
          have HP5 : Hid (∀ p ∈ ps ++ [(g2, c2, ys)], p.2.2.length ≤ 8) := Lib.hid (by
            intro p hp
            rcases List.mem_append.1 hp with hp | hp
            · exact HP.out p hp
            · obtain rfl : p = (g2, c2, ys) := by simpa using hp
              exact hy)
          have hlp : (ps ++ [(g2, c2, ys)]).length = ps.length + 1 := by simp
          have HLP := Lib.hid hlp
          clear hown5 hg5 hR2 HT o2 hlp
          go_roundw
          case rel => exact ⟨ps ++ [(g2, c2, ys)], by rw [HLP.out]; omega, ⟨g5, c5, rfl⟩, HP5, R5, hr5.more (by rw [HLP.out]; omega), gg5⟩
          case measure => simp [lenW]; omega
        · exact absurd ⟨HP2.out, HP3.out, HON.out⟩ hno
    · go_wp2
      go_ret
      exact ⟨_, ps, rfl, hR.base (by rw [HSS.out]; exact Nat.le_refl _), hps, HP.out, hr.more (by omega), hg⟩

end Go.Proofs.Ytpildecpabeanaa

/-
  The laws' helpers for lists of ints: equal, and the sum.
-/
namespace Go.Proofs.Ytpildecpabeanaa
open Go.RowKit

theorem take_sumU {xs : List Int} {k : Nat} {x : Int} (hx : xs[k]? = some x) : (xs.take (k + 1)).sum = (xs.take k).sum + x := by
  rw [List.take_add_one, hx]; simp
set_option maxHeartbeats 400000 in
theorem equalU_any (A B : Option Addr) (c d : Nat) (xs ys : List Int) (w : World) (h1 : Rd w A c xs) (h2 : Rd w B d ys) (hl : xs.length ≤ 1099511627776) :
    Calls Try.prog 35 #[.slice A xs.length c, .slice B ys.length d] w (BoolIs w (eqB xs ys)) := by
  by_cases hlen : xs.length = ys.length
  · have he : ((xs.length : Int) != (ys.length : Int)) = false := by simp [hlen]
    have HL := Lib.hid hlen
    have hle : ys.length ≤ xs.length := by omega
    have hle' : xs.length ≤ ys.length := by omega
    clear hlen
    go_enter Try.func35, Try.ntmps35
    go_wp2
    go_loopw [5] (fun i wr => ∃ k n : Nat, k ≤ xs.length ∧ i = .int .i64 k ∧ wr = w.drewN n ∧ Hid (xs.take k = ys.take k))
      (fun i _ => xs.length - (intOf i).toNat)
    case atStart => exact ⟨0, 0, Nat.zero_le _, rfl, rfl, Lib.hid rfl⟩
    case round =>
      obtain ⟨k, n, hk, rfl, rfl, HT⟩ := hrel
      by_cases hlt : k < xs.length
      · obtain ⟨b1, o1, x, rfl, _, hx, hc1⟩ := h1.at_ hlt
        have hlt2 : k < ys.length := by omega
        obtain ⟨b2, o2, y, rfl, _, hy, hc2⟩ := h2.at_ hlt2
        by_cases hxy : x = y
        · subst hxy
          have hne : (x != x) = false := by simp
          have HT' := Lib.hid (take_step hx.out hy.out HT.out)
          go_wp2
          go_quiet (fail)
          go_wp2
          go_roundw
          case rel => exact ⟨k + 1, _, by omega, by go_num, rfl, HT'⟩
          case measure => simp [intOf]; omega
        · have hne : (x != y) = true := by simpa using hxy
          have HE := Lib.hid (eqB_at hx.out hy.out hxy)
          go_wp2
          go_quiet (fail)
          go_wp2
          go_ret
          exact ⟨by rw [HE.out]; rfl, n + nq, World.drewN_drewN _ _ _⟩
      · obtain rfl : k = xs.length := by omega
        have HE := Lib.hid (eqB_all HL.out HT.out)
        go_wp2
        go_ret
        exact ⟨by rw [HE.out]; rfl, _, rfl⟩
  · have he : ((xs.length : Int) != (ys.length : Int)) = true := by simp; omega
    have HE := Lib.hid (eqB_len hlen)
    go_enter Try.func35, Try.ntmps35
    go_wp2
    go_ret
    exact ⟨by rw [HE.out]; rfl, 0, rfl⟩

/-- Numbers none of which is beyond 2 to 31. -/
def Abs2 (xs : List Int) : Prop := ∀ x ∈ xs, -2147483648 ≤ x ∧ x ≤ 2147483647
theorem abs2_sum {xs : List Int} (h : Abs2 xs) (k : Nat) : -2147483648 * (k : Int) ≤ (xs.take k).sum ∧ (xs.take k).sum ≤ 2147483647 * (k : Int) := by
  induction k with
  | zero => simp
  | succ k ih =>
    rw [List.take_add_one, List.sum_append]
    cases hx : xs[k]? with
    | none => simp; omega
    | some x => have := h x (List.mem_of_getElem? hx); simp; omega

theorem totalU_any (A : Option Addr) (c : Nat) (xs : List Int) (w : World) (h : Rd w A c xs) (hl : xs.length ≤ 1048576) (hs : Abs2 xs) :
    Calls Try.prog 36 #[.slice A xs.length c] w fun e w' => e = .returned (.int .i64 xs.sum) ∧ w = w' := by
  go_enter Try.func36, Try.ntmps36
  go_wp2
  go_loop [3, 4] (fun s i => ∃ (k : Nat) (t : Int), k ≤ xs.length ∧ i = .int .i64 k ∧ s = .int .i64 t ∧ Hid (t = (xs.take k).sum)) (fun _ i => xs.length - (intOf i).toNat)
  case atStart => exact ⟨0, 0, Nat.zero_le _, rfl, rfl, Lib.hid (by simp)⟩
  case round =>
    obtain ⟨k, t, hk, rfl, rfl, HT⟩ := hrel
    by_cases hlt : k < xs.length
    · obtain ⟨b, off, x, rfl, _, hx, hc⟩ := h.at_ hlt
      have b1 := hs x (List.mem_of_getElem? hx.out)
      have b2 := abs2_sum hs k
      rw [← HT.out] at b2
      have HT' := Lib.hid (take_sumU hx.out)
      rw [← HT.out] at HT'
      go_wp2
      go_round
      case rel => exact ⟨k + 1, _, by omega, by go_num, rfl, Lib.hid HT'.out.symm⟩
      case measure => simp [intOf]; omega
    · obtain rfl : k = xs.length := by omega
      have HE := Lib.hid (show t = xs.sum by rw [HT.out, List.take_length])
      go_wp2
      go_ret
      exact ⟨by rw [HE.out]; rfl, rfl⟩

end Go.Proofs.Ytpildecpabeanaa

/-
  The laws of chapters 4 and 5: what they draw.
-/
namespace Go.Proofs.Ytpildecpabeanaa
open Go.RowKit Go.Lib

theorem eight_map {ps : List (Nat × Nat × List Int)} (hl : ps.length ≤ 4) (h : ∀ p ∈ ps, p.2.2.length ≤ 8) : (ps.map (·.2.2)).length ≤ 4 ∧ ∀ r ∈ ps.map (·.2.2), r.length ≤ 8 :=
  ⟨by simpa using hl, fun r hr => by obtain ⟨p, hp, rfl⟩ := List.mem_map.1 hr; exact h p hp⟩
/-- What is drawn: tables. -/
def DrawnTs (w : World) (e : Ending) (w' : World) : Prop :=
  ∃ (A : Option Addr) (c : Nat) (rows : List (List Int)), e = .returned (.slice A rows.length c) ∧ RdR w' A c rows ∧ rows.length ≤ 4 ∧ (∀ r ∈ rows, r.length ≤ 8) ∧ Below w.heap.size w w'

set_option maxRecDepth 100000 in
theorem DrawPivotPays_any (A : Option Addr) (c : Nat) (xs : List Int) (w : World) (h : Came .u8 w A c xs) :
    Calls Try.prog 38 #[.slice A xs.length c] w (DrawnTs w) := by
  go_enter Try.func38, Try.ntmps38
  go_wp2_with fail
  refine (newReader_any A c xs w h).mono ?_
  rintro e w1 ⟨rb, rfl, hrb, hr1, hb1⟩
  go_wp2_with fail
  refine (pick_any rb 0 4 w1 hr1 (by decide) (by decide) (by decide)).mono ?_
  rintro e w2 ⟨m, rfl, hm2, _, hr2, hg2⟩
  have B2 := hb1.trans (gb_below hg2 hb1.size hrb)
  by_cases hm : m = 0
  · have hmb : (m == 0) = true := by simpa using hm
    clear hm
    go_wp2_with fail
    refine (easyTables_any rb 1 w2 hr2 (by decide)).mono ?_
    rintro e w3 ⟨v, ps, rfl, R3, hp4, hp8, hr3, hg3⟩
    have B3 := B2.trans (gb_below hg3 B2.size hrb)
    have H6 := Lib.hid (eight_map hp4 hp8)
    have HLN : Hid (ps.length = (ps.map (·.2.2)).length) := Lib.hid (by rw [List.length_map])
    obtain ⟨A2, c2, rfl, hR3⟩ := R3.rdr rfl
    clear hp8 hg3 R3 hg2 hmb
    go_wp2
    go_ret
    exact ⟨A2, c2, ps.map (·.2.2), by rw [← HLN.out]; rfl, hR3, H6.out.1, H6.out.2, B3⟩
  · have hmb : (m == 0) = false := by simpa using hm
    clear hm
    go_wp2_with fail
    refine (someTables_any rb 1 w2 hr2 (by decide)).mono ?_
    rintro e w3 ⟨v, ps, rfl, R3, hp4, hp8, hr3, hg3⟩
    have B3 := B2.trans (gb_below hg3 B2.size hrb)
    have H6 := Lib.hid (eight_map hp4 hp8)
    have HLN : Hid (ps.length = (ps.map (·.2.2)).length) := Lib.hid (by rw [List.length_map])
    obtain ⟨A2, c2, rfl, hR3⟩ := R3.rdr rfl
    clear hp8 hg3 R3 hg2 hmb
    go_wp2
    go_ret
    exact ⟨A2, c2, ps.map (·.2.2), by rw [← HLN.out]; rfl, hR3, H6.out.1, H6.out.2, B3⟩

end Go.Proofs.Ytpildecpabeanaa
