/-
  The generators of the laws of chapter 3: demands, and the arguments of each function.
-/
import Derived.Test.YtkkdffmpeadinaaVd
namespace Go.Proofs.Ytkkdffmpeadinaa
open Go.RowKit

/-- A row more. -/
theorem RowsU.more {w w1 : World} {B : Nat} {v v' : Value} {ps : List (Nat × Nat × List Int)} {p : Nat × Nat × List Int} {tmp : Obj} (h : RowsU w B v ps) (ho : Own w B (some ⟨p.1, 0, none⟩) p.2.1 p.2.2) (hn : p.1 ∉ ps.map (·.1))
    (hown : w1.ownsRow B 29 1 v' (ps.length + 1) (ps.map slU ++ [slU p])) (hg : (w.alloc tmp).grownBy w1 v.ownBlock) : RowsU w1 B v' (ps ++ [p]) := by
  have hk : ∀ q : Nat × Nat × List Int, Own w B (some ⟨q.1, 0, none⟩) q.2.1 q.2.2 → Own w1 B (some ⟨q.1, 0, none⟩) q.2.1 q.2.2 := by
    intro q hq
    have h1 := World.ownsRow.kept (show (w.alloc tmp).ownsRow B 3 1 _ _ _ from hq.below ((Below.refl _ w).alloc (Nat.le_refl _) tmp)) hg (.inr (by
      have := rowU_apart h.row hq
      simp only [Value.ownBlock]
      exact fun e => this e.symm))
    exact h1
  refine ⟨by simpa using hown, ?_, ?_⟩
  · intro q hq
    rcases List.mem_append.1 hq with hq | hq
    · exact hk q (h.each q hq)
    · obtain rfl : q = p := by simpa using hq
      exact hk q ho
  · rw [List.map_append, List.nodup_append]
    refine ⟨h.nodup, by simp, ?_⟩
    intro a ha b hb hab
    simp at hb
    subst hb hab
    exact hn ha
/-- The first row another. -/
theorem RowsU.put {w : World} {B g c : Nat} {p q : Nat × Nat × List Int} {rs : List (Nat × Nat × List Int)} (h : RowsU w B (.slice (some ⟨g, 0, none⟩) (p :: rs).length c) (p :: rs)) (ho : Own w B (some ⟨q.1, 0, none⟩) q.2.1 q.2.2) (hn : q.1 ∉ (p :: rs).map (·.1)) :
    RowsU (w.setCell ⟨g, 0, none⟩ (slU q)) B (.slice (some ⟨g, 0, none⟩) (p :: rs).length c) (q :: rs) := by
  have hst := World.ownsRow.stored h.row 0 (slU q)
  have hap : ∀ r : Nat × Nat × List Int, Own w B (some ⟨r.1, 0, none⟩) r.2.1 r.2.2 → Own (w.setCell ⟨g, 0, none⟩ (slU q)) B (some ⟨r.1, 0, none⟩) r.2.1 r.2.2 := fun r hr => by
    have := rowU_apart h.row hr
    exact hr.kept_ (A2 := some ⟨g, 0, none⟩) hst.2 (.inr (fun e => this e.symm))
  refine ⟨by simpa using hst.1, fun r hr => ?_, ?_⟩
  · rcases List.mem_cons.1 hr with rfl | hr
    · exact hap _ ho
    · exact hap _ (h.each r (by simp [hr]))
  · have h1 := h.nodup
    rw [List.map_cons, List.nodup_cons] at h1 ⊢
    exact ⟨fun hm => hn (by rw [List.map_cons]; exact List.mem_cons_of_mem _ hm), h1.2⟩
theorem RowsU.ask {w w' : World} {rb B : Nat} {v : Value} {ps : List (Nat × Nat × List Int)} (h : RowsU w B v ps) (hg : w.grownBy w' (some rb)) (hB : rb < B) : RowsU w' B v ps :=
  h.kept hg (fun e => by have := (World.ownsRow.lt h.row rb e).1; omega) (fun p hp e => by have := (h.each p hp).ge; omega)
theorem RowsU.notIn {w w0 : World} {B B' g c : Nat} {v : Value} {zs : List Int} {ps : List (Nat × Nat × List Int)} (h : RowsU w0 B v ps) (hs : w0.heap.size ≤ B') (ho : Own w B' (some ⟨g, 0, none⟩) c zs) : g ∉ ps.map (·.1) := by
  intro hg
  obtain ⟨p, hp, rfl⟩ := List.mem_map.1 hg
  have h1 := (h.each p hp).lt
  have h2 := ho.ge
  omega
theorem RowsU.one {w : World} {B : Nat} {v : Value} {ps : List (Nat × Nat × List Int)} (h : RowsU w B v ps) (hp : 1 ≤ ps.length) : ∃ g c, v = .slice (some ⟨g, 0, none⟩) ps.length c := by
  rcases h.shape with ⟨rfl, _⟩ | ⟨g, c, hv, _⟩
  · simp at hp
  · exact ⟨g, c, hv⟩

theorem rowsU_empty (w : World) : RowsU (w.alloc (.cells #[] 29)) w.heap.size (.slice (some ⟨w.heap.size, 0, none⟩) 0 0) [] := ⟨row_empty w, fun _ h => absurd h (by simp), by simp⟩

theorem Own.alloc_ {w : World} {B : Nat} {A : Option Addr} {c : Nat} {xs : List Int} (h : Own w B A c xs) (o : Obj) : Own (w.alloc o) B A c xs := World.ownsRow.alloc h o

/-- The three rows that are written out. -/
theorem lit3 (w : World) : RowsU ((((w.alloc (.cells #[.int .i64 1, .int .i64 2] 3)).alloc (.cells #[.int .i64 31] 3)).alloc (.cells #[.int .i64 1, .int .i64 1, .int .i64 1, .int .i64 1, .int .i64 1, .int .i64 1] 3)).alloc
      (.cells #[.slice (some ⟨w.heap.size, 0, none⟩) 2 2, .slice (some ⟨w.heap.size + 1, 0, none⟩) 1 1, .slice (some ⟨w.heap.size + 1 + 1, 0, none⟩) 6 6] 29)) w.heap.size (.slice (some ⟨w.heap.size + 1 + 1 + 1, 0, none⟩) 3 3)
      [(w.heap.size, 2, [1, 2]), (w.heap.size + 1, 1, [31]), (w.heap.size + 1 + 1, 6, [1, 1, 1, 1, 1, 1])] := by
  have e1 := own_lit w [1, 2] (by decide)
  have e2 := own_lit (w.alloc (.cells #[.int .i64 1, .int .i64 2] 3)) [31] (by decide)
  have e3 := own_lit ((w.alloc (.cells #[.int .i64 1, .int .i64 2] 3)).alloc (.cells #[.int .i64 31] 3)) [1, 1, 1, 1, 1, 1] (by decide)
  have e4 := World.ownsRow_lit (e := 29) (size := 1) (base := w.heap.size) (((w.alloc (.cells #[.int .i64 1, .int .i64 2] 3)).alloc (.cells #[.int .i64 31] 3)).alloc (.cells #[.int .i64 1, .int .i64 1, .int .i64 1, .int .i64 1, .int .i64 1, .int .i64 1] 3))
    #[.slice (some ⟨w.heap.size, 0, none⟩) 2 2, .slice (some ⟨w.heap.size + 1, 0, none⟩) 1 1, .slice (some ⟨w.heap.size + 1 + 1, 0, none⟩) 6 6] 3 (by simp only [World.size_alloc]; omega) (by simp [maxLen]) (by simp)
  simp only [World.size_alloc] at e2 e3 e4
  refine ⟨e4, ?_, ?_⟩
  · intro p hp
    simp only [List.mem_cons, List.not_mem_nil, or_false] at hp
    rcases hp with rfl | rfl | rfl
    · exact ((e1.alloc_ _).alloc_ _).alloc_ _
    · exact ((e2.alloc_ _).alloc_ _).base (by omega)
    · exact (e3.alloc_ _).base (by omega)
  · simp <;> omega

/-- What someDemands hands back. -/
def DemandsIs (w : World) (rb k : Nat) (e : Ending) (w' : World) : Prop :=
  ∃ v ps, e = .returned v ∧ RowsU w' w.heap.size v ps ∧ ps.length ≤ 4 ∧ (∀ p ∈ ps, p.2.2.length ≤ 6) ∧ Rdr w' rb k ∧ w.grownBy w' (some rb)

def lenV : Value → Nat
  | .slice _ n _ => n
  | _ => 0

set_option maxHeartbeats 4000000 in
set_option maxRecDepth 100000 in
theorem someDemands_any (rb k : Nat) (w : World) (h : Rdr w rb k) (hk : k + 60 ≤ 1000000) :
    Calls Try.prog 46 #[.pointer (some ⟨rb, 0, none⟩)] w (DemandsIs w rb (k + 40)) := by
  obtain ⟨i0, hi, hz0, hz1, hz2⟩ := info_parts intsU_info
  have hl := h.lt
  have HE := Lib.hid (rowsU_empty w)
  have HL : Hid (Own ((w.alloc (.cells #[] 29)).alloc (.cells #[.int .i64 2, .int .i64 3, .int .i64 4, .int .i64 1, .int .i64 0] 3)) (w.heap.size + 1) (some ⟨w.heap.size + 1, 0, none⟩) 5 [2, 3, 4, 1, 0]) := Lib.hid (by
    have := own_lit (w.alloc (.cells #[] 29)) [2, 3, 4, 1, 0] (by decide)
    rw [World.size_alloc] at this
    exact this)
  have HR := Lib.hid ((h.alloc (.cells #[] 29)).alloc (.cells #[.int .i64 2, .int .i64 3, .int .i64 4, .int .i64 1, .int .i64 0] 3))
  have HG : Hid (w.grownBy ((w.alloc (.cells #[] 29)).alloc (.cells #[.int .i64 2, .int .i64 3, .int .i64 4, .int .i64 1, .int .i64 0] 3)) (some rb)) := Lib.hid (gb_alloc (World.grownBy_alloc w _ (some rb)) _)
  have HO : Hid (RowsU ((w.alloc (.cells #[] 29)).alloc (.cells #[.int .i64 2, .int .i64 3, .int .i64 4, .int .i64 1, .int .i64 0] 3)) w.heap.size (.slice (some ⟨w.heap.size, 0, none⟩) 0 0) []) := Lib.hid (HE.out.below ((Below.refl _ _).alloc (Nat.le_refl _) _))
  have hl2 : w.heap.size + 1 ≠ rb := by omega
  clear HE
  go_enter Try.func46, Try.ntmps46
  go_wp2_with fail
  refine (one_any rb k (w.heap.size + 1) 5 5 (w.heap.size + 1) [2, 3, 4, 1, 0] _ rfl HR.out HL.out hl2 (by decide) (by decide) (by omega)).mono ?_
  rintro e w1 ⟨most, hmo, rfl, hr1, hg1⟩
  have hm0 : 0 ≤ most := by simp only [List.mem_cons, List.not_mem_nil, or_false] at hmo; omega
  have hm1 : most ≤ 4 := by simp only [List.mem_cons, List.not_mem_nil, or_false] at hmo; omega
  have ho1 := HO.out.ask hg1 hl
  have gg1 := HG.out.trans hg1
  obtain ⟨S, hS⟩ : ∃ S, S = w.heap.size := ⟨_, rfl⟩
  have HSS := Lib.hid hS
  rw [← hS] at ho1 hl
  clear hmo HR HG HO HL hg1 hl2
  go_wp2_with fail
  rw [← hS]
  clear hS
  go_loopw [3] (fun v wr => ∃ (ps : List (Nat × Nat × List Int)), ps.length ≤ 4 ∧ (∃ g c, v = .slice (some ⟨g, 0, none⟩) ps.length c) ∧ Hid (∀ p ∈ ps, p.2.2.length ≤ 5) ∧ RowsU wr S v ps ∧ Rdr wr rb (k + 1 + 8 * ps.length) ∧ w.grownBy wr (some rb))
    (fun v _ => 4 - lenV v)
  case atStart => exact ⟨[], Nat.zero_le _, ⟨S, 0, rfl⟩, Lib.hid (fun _ h => absurd h (by simp)), ho1, hr1, gg1⟩
  case round =>
    obtain ⟨ps, hps, ⟨g, c, rfl⟩, HP, hR, hr, hg⟩ := hrel
    by_cases hlt : (ps.length : Int) < most
    · have hp4 : ps.length < 4 := by omega
      have HRW := Lib.hid hR
      go_wp2_with fail
      refine (demandRow_any rb (k + 1 + 8 * ps.length) wr hr (by omega)).mono ?_
      rintro e w2 ⟨g2, c2, ys, rfl, o2, hy, hr2, hg2⟩
      have hR2 := HRW.out.ask hg2 hl
      have gg2 := hg.trans hg2
      have hnot := HRW.out.notIn (Nat.le_refl _) o2
      have HN := Lib.hid hnot
      have hS2 : S ≤ wr.heap.size := by rw [HSS.out]; exact hg.size
      have HT := Lib.hid (own_len hR2.row ((Below.refl _ w2).alloc (Nat.le_refl _) (.cells #[slU (g2, c2, ys)] 29)))
      have hb63 : ps.length + 1 ≤ maxLen := by unfold maxLen; omega
      have hSz : S ≤ w2.heap.size + 1 := by have := hg2.size; omega
      clear hR hnot
      go_wp2_with (at_builtin; (refine wpList_append_own _ rfl _ _ 23 rfl S 29 i0 (.slice none 0 0) 1 24 Try.underlying23 hi hz0 hz1 hz2 rfl (by decide) (.slice (some ⟨g, 0, none⟩) ps.length c) ps.length (ps.map slU) rfl HT.out ⟨w2.heap.size, 0, none⟩ 1 1 [slU (g2, c2, ys)] rfl rfl (cell_one_new _ _ _) (by simp [slU, Value.oneCell']) hb63 (by omega) (by simpa using hSz) ?_; intro v5 w5 hown5 hg5 _))
      have R5 : RowsU w5 S v5 (ps ++ [(g2, c2, ys)]) := hR2.more (p := (g2, c2, ys)) (o2.base hS2) HN.out hown5 hg5
      have hgeg : S ≤ g := (World.ownsRow.lt hR2.row g rfl).1
      have hr5 := (hr2.alloc (.cells #[slU (g2, c2, ys)] 29)).grown (g := g) hg5 (by omega)
      have gg5 := gb_new (g := g) (gb_alloc gg2 (.cells #[slU (g2, c2, ys)] 29)) hg5 (by rw [← HSS.out]; exact hgeg)
      obtain ⟨g5, c5, rfl⟩ := R5.one (by simp)
      have HP5 : Hid (∀ p ∈ ps ++ [(g2, c2, ys)], p.2.2.length ≤ 5) := Lib.hid (by
        intro p hp
        rcases List.mem_append.1 hp with hp | hp
        · exact HP.out p hp
        · obtain rfl : p = (g2, c2, ys) := by simpa using hp
          exact hy)
      have hlp : (ps ++ [(g2, c2, ys)]).length = ps.length + 1 := by simp
      have HLP := Lib.hid hlp
      clear hown5 hg5 hR2 HT o2 hlp
      go_roundw
      case rel => exact ⟨ps ++ [(g2, c2, ys)], by rw [HLP.out]; omega, ⟨g5, c5, rfl⟩, HP5, R5, hr5.more (by rw [HLP.out]; omega), gg5⟩
      case measure => simp [lenV]; omega
    · cases ps with
      | nil =>
        have hz : ¬ (0 : Int) < (([] : List (Nat × Nat × List Int)).length : Int) := by simp
        have HR0 := Lib.hid hR
        clear hR
        go_wp2
        go_ret
        exact ⟨_, [], rfl, HR0.out.base (by rw [HSS.out]; exact Nat.le_refl _), by simp, (fun _ h => absurd h (by simp)), hr.more (by simp), hg⟩
      | cons p rs =>
        obtain ⟨L, hL⟩ : ∃ L, L = (p :: rs).length := ⟨_, rfl⟩
        have hL0 : (0 : Int) < (L : Int) := by rw [hL]; simp
        have HLL := Lib.hid hL
        rw [← hL] at hr hps hlt ⊢
        have HRW := Lib.hid hR
        have hR' := hR
        rw [← hL] at hR'
        clear hR hL hR'
        go_wp2_with fail
        refine (pick_any rb (k + 1 + 8 * L) 30 wr hr (by omega) (by decide) (by decide)).mono ?_
        rintro e w2 ⟨m, rfl, hm2, _, hr2, hg2⟩
        have gg2 := hg.trans hg2
        have hR2 := HRW.out.ask hg2 hl
        by_cases hm : m = 0
        · have hmb : (m == 0) = true := by simpa using hm
          clear hm
          go_wp2_with fail
          have HL3 := lit3 w2
          have B3 : Below w2.heap.size w2 ((((w2.alloc (.cells #[.int .i64 1, .int .i64 2] 3)).alloc (.cells #[.int .i64 31] 3)).alloc (.cells #[.int .i64 1, .int .i64 1, .int .i64 1, .int .i64 1, .int .i64 1, .int .i64 1] 3)).alloc
            (.cells #[.slice (some ⟨w2.heap.size, 0, none⟩) 2 2, .slice (some ⟨w2.heap.size + 1, 0, none⟩) 1 1, .slice (some ⟨w2.heap.size + 1 + 1, 0, none⟩) 6 6] 29)) :=
            ((((Below.refl w2.heap.size w2).alloc (Nat.le_refl _) _).alloc (by simp) _).alloc (by simp <;> omega) _).alloc (by simp <;> omega) _
          have gg3 := gb_alloc (gb_alloc (gb_alloc (gb_alloc gg2 (.cells #[.int .i64 1, .int .i64 2] 3)) (.cells #[.int .i64 31] 3)) (.cells #[.int .i64 1, .int .i64 1, .int .i64 1, .int .i64 1, .int .i64 1, .int .i64 1] 3)) (.cells #[.slice (some ⟨w2.heap.size, 0, none⟩) 2 2, .slice (some ⟨w2.heap.size + 1, 0, none⟩) 1 1, .slice (some ⟨w2.heap.size + 1 + 1, 0, none⟩) 6 6] 29)
          have hr3 := hr2.below B3
          have hR3 := hR2.below B3
          have hrb2 : rb < w2.heap.size := hr2.lt
          refine (one2_any rb (k + 1 + 8 * L + 1) w2.heap.size _ _ _ hr3 HL3 hrb2 (by simp) (by simp) (by omega)).mono ?_
          rintro e w4 ⟨q, hq, rfl, hr4, hg4⟩
          have hq6 : q.2.2.length ≤ 6 := by
            simp only [List.mem_cons, List.not_mem_nil, or_false] at hq
            rcases hq with rfl | rfl | rfl <;> simp
          have oq := HL3.each q hq
          have hnot := hR2.notIn (Nat.le_refl _) oq
          have hS2 : S ≤ w2.heap.size := by rw [HSS.out]; exact gg2.size
          have oq4 := (oq.ask hg4 hrb2).base hS2
          have hR4 := hR3.ask hg4 hl
          have hcell := World.ownsRow.cellAt hR4.row 0 (by simp)
          have hfr := World.ownsRow.frozenAt hR4.row 0
          have hput := hR4.put oq4 hnot
          have hgeg : S ≤ g := (World.ownsRow.lt hR4.row g rfl).1
          have hr5 := hr4.set_ (i := 0) (v := slU q) (show rb < g by omega)
          have gg5 := gb_set (i := 0) (v := slU q) (gg3.trans hg4) (show w.heap.size ≤ g by rw [← HSS.out]; exact hgeg)
          have HPUT : Hid (RowsU (w4.setCell ⟨g, 0, none⟩ (slU q)) S (.slice (some ⟨g, 0, none⟩) L c) (q :: rs)) := Lib.hid (by rw [HLL.out]; exact hput)
          have HR5 := Lib.hid hr5
          have HG5 := Lib.hid gg5
          have HQ6 := Lib.hid hq6
          have hlq : (q :: rs).length = L := by rw [HLL.out]; rfl
          have HLQ := Lib.hid hlq
          obtain ⟨qg, qc, ql⟩ := q
          simp only [slU, List.map_cons, List.getElem?_cons_zero] at hcell
          simp only [slU] at HPUT HR5 HG5
          clear HL3 B3 gg3 hr3 hR3 hq oq hnot oq4 hR4 hput hr5 gg5 hR2 hr2 hr4 hg4 gg2 hq6 hlq
          have hcell0 : w4.cell? ⟨g, 0, none⟩ = some (.slice (some ⟨p.1, 0, none⟩) p.2.2.length p.2.1) := hcell
          clear hcell
          simp only [slU]
          go_wp2
          go_ret
          exact ⟨.slice (some ⟨g, 0, none⟩) L c, (qg, qc, ql) :: rs, rfl, HPUT.out.base (by rw [HSS.out]; exact Nat.le_refl _), by rw [HLQ.out]; exact hps, (fun p' hp' => by
            rcases List.mem_cons.1 hp' with rfl | hp'
            · exact HQ6.out
            · have := HP.out p' (by simp [hp']); omega), HR5.out.more (by omega), HG5.out⟩
        · have hmb : (m == 0) = false := by simpa using hm
          have HR2 := Lib.hid hR2
          clear hm hR2
          go_wp2
          go_ret
          exact ⟨.slice (some ⟨g, 0, none⟩) L c, p :: rs, rfl, by rw [HLL.out]; exact HR2.out.base (by rw [HSS.out]; exact Nat.le_refl _), by rw [← HLL.out]; exact hps, (fun q hq => by have := HP.out q hq; omega), hr2.more (by omega), gg2⟩

end Go.Proofs.Ytkkdffmpeadinaa
