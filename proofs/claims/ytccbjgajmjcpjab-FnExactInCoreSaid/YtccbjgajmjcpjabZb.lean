/-
  Chapter 5, the model: the contracts of all, others, pivot, PivotPays, AddsOf.
-/
import Derived.Test.YtccbjgajmjcpjabZa
import Derived.Test.YtccbjgajmjcpjabRw
import Derived.Test.YtccbjgajmjcpjabWm
import Derived.Test.YtccbjgajmjcpjabWo
import Derived.Deep.RegionLaw
namespace Go.Proofs.Ytccbjgajmjcpjab
open Go.RowKit

theorem Sall_any (w : World) : Calls Try.prog 113 #[] w fun e w' => e = .returned (.int .i64 7) ∧ w = w' := by
  go_enter Try.func113, Try.ntmps113
  go_wp2_with fail
  refine (Spower_any 3 (by omega) w).mono ?_
  rintro e w1 ⟨rfl, rfl⟩
  go_wp2
  go_ret
  exact ⟨rfl, rfl⟩

set_option maxHeartbeats 1000000 in
theorem Sothers_any (b off c i n : Nat) (ts : List (List Int)) (w : World) (hn : ts.length = n) (hR : RdR w (some ⟨b, off, none⟩) c ts) (hi : i < n) (hl : n ≤ 1000) :
    Calls Try.prog 143 #[.slice (some ⟨b, off, none⟩) n c, .int .i64 i] w (CopyIs w (ts.eraseIdx i) (n - 1)) := by
  obtain ⟨vs, hvs, hcell⟩ := hR.vals
  have hb0 : Below w.heap.size w (w.drew.alloc (.cells #[] 26)) := (below_drewN' (Below.refl w.heap.size w) 1).alloc (Nat.le_refl _) (.cells #[] 26)
  have hvl : vs.length = n := by rw [hvs.1, hn]
  have hc : n ≤ c := by rw [← hn]; exact hR.1
  have HV := Lib.hid hvs
  have HC := Lib.hid (fun (w1 : World) (hb : Below w.heap.size w w1) (k : Nat) (v : Value) (h : vs[k]? = some v) => (hb.cell (p := ⟨b, off + k, none⟩) (World.block_lt_of_cell? w _ (hcell k v h))).trans (hcell k v h))
  have hone := hvs.oneCell
  have HO := Lib.hid hone
  have ho := row_empty w.drew
  have hwi : IntKind.i64.wrap ((i : Int) + 1) = ((i + 1 : Nat) : Int) := IntWalk.i64_in _ (by omega)
  have hi1 : i + 1 ≤ n := hi
  have hic : i ≤ c := by omega
  have hi1c : i + 1 ≤ c := by omega
  clear hR hvs hcell hone
  have hadd : ∀ o j, (⟨b, o, none⟩ : Addr).add j = ⟨b, o + j, none⟩ := fun o j => by unfold Addr.add; split <;> simp_all
  have HAD := Lib.hid hadd
  have hb1 : Below w.heap.size w (w.alloc (.cells #[] 26)).drew := below_drewN' ((Below.refl w.heap.size w).alloc (Nat.le_refl _) (.cells #[] 26)) 1
  have HO1 : Hid ((w.alloc (.cells #[] 26)).drew.ownsRow w.heap.size 26 1 (.slice (some ⟨w.heap.size, 0, none⟩) 0 0) 0 []) := Lib.hid (row_empty w)
  have HN1 : Hid (∀ (W : World), Below w.heap.size w W → ∀ j u, (vs.take i)[j]? = some u → W.cell? ((⟨b, off, none⟩ : Addr).add j) = some u) := Lib.hid (fun W hW j u hu => by
    rw [HAD.out]; refine HC.out W hW j u ?_
    rw [List.getElem?_take] at hu; split at hu
    · exact hu
    · cases hu)
  have HN2 : Hid (∀ (W : World), Below w.heap.size w W → ∀ j u, (vs.drop (i + 1))[j]? = some u → W.cell? ((⟨b, off + (i + 1), none⟩ : Addr).add j) = some u) := Lib.hid (fun W hW j u hu => by
    rw [HAD.out, Nat.add_assoc]; refine HC.out W hW _ u ?_
    rw [List.getElem?_drop] at hu
    exact hu)
  have HTL : Hid ((vs.take i).length = i) := Lib.hid (by rw [List.length_take]; omega)
  have HDL : Hid ((vs.drop (i + 1)).length = n - (i + 1)) := Lib.hid (by rw [List.length_drop]; omega)
  have HT1 : Hid (∀ u ∈ vs.take i, u.oneCell' = true) := Lib.hid (fun u hu => HO.out u (List.mem_of_mem_take hu))
  have HT2 : Hid (∀ u ∈ vs.drop (i + 1), u.oneCell' = true) := Lib.hid (fun u hu => HO.out u (List.mem_of_mem_drop hu))
  have HEC : Hid (vs.take i ++ vs.drop (i + 1) = vs.eraseIdx i) := Lib.hid (erase_cut vs i)
  clear hadd
  by_cases hci : c = i + 1
  · subst hci
    obtain rfl : n = i + 1 := by omega
    have HT3 : Hid (vs.take i = vs.eraseIdx i) := Lib.hid (by
      rw [← HEC.out, List.drop_eq_nil_of_le (by omega), List.append_nil])
    have hi0 : i + 1 - (i + 1) = 0 := by omega
    have q1 : (i : Int) ≤ (i : Int) + 1 := by omega
    have q2 : (0 : Int) ≤ (i : Int) + 1 := by omega
    clear HN2 HDL HT2 HEC
    go_enter Try.func143, Try.ntmps143
    go_wp2_with fail
    go_region_law (first
      | (refine step_append_rows rfl _ _ rfl w.heap.size w.heap.size 0 0 [] rfl HO1.out ⟨b, off, none⟩ _ i (vs.take i) rfl HTL.out (HN1.out _ hb1) HT1.out i (by omega) (by omega) hb1.size ?_; intro g2 c2 w2 o2 g2'; have B2 : Below w.heap.size w w2 := hb1.grown g2' hb1.size (fun k e => by cases e; exact Nat.le_refl _); rw [List.nil_append] at o2)
      | (refine step_append_rows rfl _ _ rfl w.heap.size g2 c2 i (vs.take i) rfl o2 ⟨b, off, none⟩ _ 0 [] rfl rfl (fun j u hu => by simp at hu) (fun u hu => by simp at hu) i (by omega) (by omega) B2.size ?_; intro g3 c3 w3 o3 g3'; have B3 : Below w.heap.size w w3 := B2.grown g3' B2.size (fun k e => by cases e; exact (World.ownsRow.lt o2 g2 rfl).1); rw [List.append_nil, HT3.out] at o3))
    go_wp2
    go_ret
    exact ⟨g3, c3, vs.eraseIdx i, rfl, o3, HV.out.erase i, B3⟩
  · have q2 : (0 : Int) ≤ (i : Int) + 1 := by omega
    have q3 : (i : Int) + 1 ≤ (n : Int) := by omega
    go_enter Try.func143, Try.ntmps143
    go_wp2_with fail
    go_region_law (first
      | (refine step_append_rows rfl _ _ rfl w.heap.size w.heap.size 0 0 [] rfl HO1.out ⟨b, off, none⟩ _ i (vs.take i) rfl HTL.out (HN1.out _ hb1) HT1.out i (by omega) (by omega) hb1.size ?_; intro g2 c2 w2 o2 g2'; have B2 : Below w.heap.size w w2 := hb1.grown g2' hb1.size (fun k e => by cases e; exact Nat.le_refl _); rw [List.nil_append] at o2)
      | (refine step_append_rows rfl _ _ rfl w.heap.size g2 c2 i (vs.take i) rfl o2 ⟨b, off + (i + 1), none⟩ _ (n - (i + 1)) (vs.drop (i + 1)) rfl HDL.out (HN2.out _ B2) HT2.out (n - 1) (by omega) (by omega) B2.size ?_; intro g3 c3 w3 o3 g3'; have B3 : Below w.heap.size w w3 := B2.grown g3' B2.size (fun k e => by cases e; exact (World.ownsRow.lt o2 g2 rfl).1); rw [HEC.out] at o3))
    go_wp2
    go_ret
    exact ⟨g3, c3, vs.eraseIdx i, rfl, o3, HV.out.erase i, B3⟩

end Go.Proofs.Ytccbjgajmjcpjab
