/-
  The generators of the laws of chapter 3: a row of a demand, demands.
-/
import Derived.Test.YtkkdffmpeadinaaUz
import Derived.Test.YtkkdffmpeadinaaDrawD
namespace Go.Proofs.Ytkkdffmpeadinaa
open Go.RowKit

set_option maxHeartbeats 2000000 in
set_option maxRecDepth 100000 in
theorem demandRow_any (rb k : Nat) (w : World) (h : Rdr w rb k) (hk : k + 10 ≤ 1000000) :
    Calls Try.prog 68 #[.pointer (some ⟨rb, 0, none⟩)] w (BidsIs w rb (k + 8) 5) := by
  have hl := h.lt
  have HE := Lib.hid (own_empty w)
  have HR := Lib.hid (h.alloc (.cells #[] 3))
  have HG := Lib.hid (World.grownBy_alloc w (.cells #[] 3) (some rb))
  go_enter Try.func68, Try.ntmps68
  go_wp2_with fail
  refine (pick_any rb k 12 _ HR.out (by omega) (by decide) (by decide)).mono ?_
  rintro e w1 ⟨m, rfl, hm0, hm1, hr1, hg1⟩
  have hm2 : m ≤ 11 := by omega
  have ho1 : Own w1 w.heap.size (some ⟨w.heap.size, 0, none⟩) 0 [] := HE.out.kept_ (A2 := some ⟨rb, 0, none⟩) hg1 (.inr (fun e => by have := Option.some.inj e; simp at this; omega))
  have gg1 := HG.out.trans hg1
  obtain ⟨S, hS⟩ : ∃ S, S = w.heap.size := ⟨_, rfl⟩
  rw [← hS] at ho1 hl
  have HSS := Lib.hid hS
  clear HE HR HG hg1 hm1
  go_wp2_with fail
  refine (one_new rb (k + 1) 6 [2, 3, 1, 4, 0, 5] _ w1 rfl rfl hr1 (by decide) (by decide) (by omega)).mono ?_
  rintro e w2 ⟨n, hn, rfl, hr2, hg2⟩
  have hn0 : 0 ≤ n := by simp only [List.mem_cons, List.not_mem_nil, or_false] at hn; omega
  have hn1 : n ≤ 5 := by simp only [List.mem_cons, List.not_mem_nil, or_false] at hn; omega
  have ho2 := ho1.ask hg2 hl
  have gg2 := gg1.trans hg2
  rw [← hS]
  clear hn ho1 gg1 hg2 hr1 hS
  go_wp2
  go_loopw [3, 4] (fun v av wr => ∃ (g c : Nat) (ys : List Int) (a : Int), ys.length ≤ 5 ∧ v = .slice (some ⟨g, 0, none⟩) ys.length c ∧ av = .int .i64 a ∧ 0 ≤ a ∧ a ≤ 15 ∧ Own wr S (some ⟨g, 0, none⟩) c ys ∧ Rdr wr rb (k + 2 + ys.length) ∧ w.grownBy wr (some rb))
    (fun v _ _ => 5 - lenOf v)
  case atStart => exact ⟨S, 0, [], 4 + m, Nat.zero_le _, rfl, rfl, by omega, by omega, ho2, hr2, gg2⟩
  case round =>
    obtain ⟨g, c, ys, a, hys, rfl, rfl, ha0, ha1, ho, hr, hg⟩ := hrel
    have hge := ho.ge
    by_cases hlt : (ys.length : Int) < n
    · have HLm := Lib.hid (ints_one wr a)
      have HOm : Hid (Own (wr.alloc (.cells #[.int .i64 a] 3)) S (some ⟨g, 0, none⟩) c ys) := Lib.hid (World.ownsRow.alloc ho _)
      have hgg := gb_alloc hg (.cells #[.int .i64 a] 3)
      have hrr := hr.alloc (.cells #[.int .i64 a] 3)
      have hSz : S ≤ (wr.alloc (.cells #[.int .i64 a] 3)).heap.size := by rw [HSS.out]; exact hgg.size
      have hy5 : ys.length < 5 := by omega
      clear ho hr
      go_wp2_with (at_builtin; refine wpList_append_any rfl _ _ 29 Try.underlying29 rfl S (some ⟨g, 0, none⟩) c ys ys.length rfl rfl HOm.out (some ⟨wr.heap.size, 0, none⟩) 1 [a] 1 rfl rfl HLm.out (by omega) hSz ?_; intro A3 c3 w3 o3 hg3)
      obtain ⟨g3, rfl⟩ := own_some o3 (by simp)
      have hr3 := hrr.grown (g := g) hg3 (by omega)
      have gg3 := gb_new (g := g) hgg hg3 (by rw [← HSS.out]; exact hge)
      clear hrr hgg hg3 hSz HOm HLm
      go_wp2_with fail
      refine (pick_any rb (k + 2 + ys.length) 6 w3 hr3 (by omega) (by decide) (by decide)).mono ?_
      rintro e w4 ⟨q, rfl, hq0, hq1, hr4, hg4⟩
      have hq2 : q ≤ 5 := by omega
      have o4 := o3.ask hg4 hl
      have gg4 := gg3.trans hg4
      clear o3 gg3 hg4 hq1 hr3
      go_wp2
      go_roundw
      case rel => exact ⟨g3, c3, ys ++ [a], _, by simp; omega, by simp, rfl, by first | omega | (split <;> omega), by first | omega | (split <;> omega), o4, hr4.more (by simp; omega), gg4⟩
      case measure => simp [lenOf]; omega
    · go_wp2
      go_ret
      exact ⟨g, c, ys, rfl, ho.base (by rw [HSS.out]; exact Nat.le_refl _), hys, hr.more (by omega), hg⟩

/-- 'list[r.pick(len(list))]': one of the rows. -/
theorem one2_any (rb k B : Nat) (v : Value) (ps : List (Nat × Nat × List Int)) (w : World) (h : Rdr w rb k) (hR : RowsU w B v ps) (hB : rb < B) (h1 : 1 ≤ ps.length) (hn2 : ps.length ≤ 1000) (hk : k ≤ 1000000) :
    Calls Try.prog 76 #[.pointer (some ⟨rb, 0, none⟩), v] w fun e w' => ∃ p ∈ ps, e = .returned (slU p) ∧ Rdr w' rb (k + 1) ∧ w.grownBy w' (some rb) := by
  rcases hR.shape with ⟨rfl, _⟩ | ⟨g, c, rfl, hcell⟩
  · simp at h1
  have HC := Lib.hid hcell
  have hgB := (World.ownsRow.lt hR.row g rfl).1
  clear hcell
  go_enter Try.func76, Try.ntmps76
  go_wp2_with fail
  refine (pick_any rb k ps.length w h hk (by omega) (by omega)).mono ?_
  rintro e w1 ⟨m, rfl, hm0, hm1, hr, hgr⟩
  obtain ⟨j, rfl⟩ := Int.eq_ofNat_of_zero_le hm0
  have hj : j < ps.length := by omega
  obtain ⟨p, hp⟩ : ∃ p, ps[j]? = some p := ⟨_, List.getElem?_eq_getElem hj⟩
  have hc : w1.cell? ⟨g, j, none⟩ = some (slU p) := hgr.cell (HC.out j p hp) (fun e => by have := Option.some.inj e; simp at this; omega)
  have HX := Lib.hid (List.mem_of_getElem? hp)
  obtain ⟨pg, pc, pl⟩ := p
  simp only [slU] at hc
  clear hp hm1
  go_wp2
  go_ret
  exact ⟨(pg, pc, pl), HX.out, rfl, hr, hgr⟩

end Go.Proofs.Ytkkdffmpeadinaa
