/-
  Chapter 5, plain: what bidders take from the others, what they add, and how these go together.
-/
import Derived.Test.YtfjncipekjnbjaaWd
import Derived.Test.YtfjncipekjnbjaaWx
import Derived.Test.YtfjncipekjnbjaaRw
import Derived.Test.YtfjncipekjnbjaaWm
import Derived.Test.YtfjncipekjnbjaaWo
import Derived.Deep.RegionLaw
import Derived.Deep.RegionHeld3
namespace Go.Proofs.Ytfjncipekjnbjaa

/-- What bidder i takes from the others. -/
noncomputable def pvF (ts : List (List Int)) (i : Nat) : Int := sv (ts.eraseIdx i) 7 - (worthF ts (wayF ts) - T (ts.getD i []) (setOf (wayF ts) i))
/-- What bidder i adds. -/
def adF (ts : List (List Int)) (i : Nat) : Int := sv ts 7 - sv (ts.eraseIdx i) 7

theorem in7 {x : Nat} (h : x < 8) : x ∈ subs 7 := by
  have h7 : ∀ x, x < 8 → x ∈ subs 7 := by decide
  exact h7 _ h
theorem getD_row {ts : List (List Int)} {i : Nat} {t : List Int} (h : ts[i]? = some t) : ts.getD i [] = t := by rw [List.getD_eq_getElem?_getD, h]; rfl
theorem getD_mem {ts : List (List Int)} {i : Nat} (h : i < ts.length) : ts.getD i [] ∈ ts := by
  rw [List.getD_eq_getElem?_getD, List.getElem?_eq_getElem h]; exact List.getElem_mem h
theorem mem_erase {ts : List (List Int)} {i : Nat} {t : List Int} (h : t ∈ ts.eraseIdx i) : t ∈ ts := (List.eraseIdx_sublist ts i).mem h
theorem erase_len {ts : List (List Int)} {i : Nat} (h : i < ts.length) : (ts.eraseIdx i).length = ts.length - 1 := by rw [List.length_eraseIdx]; simp [h]

/-- What the others have by a way, they can have without the bidder. -/
theorem got_others (ts : List (List Int)) (x y z : Int) : ∀ (i : Nat) (k : Int), i < ts.length → Got (ts.eraseIdx i) (ge k x y z) (wk ts k x y z - T (ts.getD i []) (skn x y z (k + i))) := by
  induction ts with
  | nil => intro i k h; simp at h
  | cons t ts ih =>
    intro i k h
    obtain ⟨h1, h2⟩ := ge_step k x y z
    cases i with
    | zero =>
      have h3 := wk_got ts x y z (k + 1)
      have h4 : ge (k + 1) x y z ∈ subs (ge k x y z) := by rw [← h2]; exact (sub_rest (ge_lt _ _ _ _) h1).1
      have h5 := got_more (ge_lt _ _ _ _) h4 h3
      simp only [List.eraseIdx_zero, List.tail_cons, wk, List.getD_cons_zero]
      rw [show T t (skn x y z k) + wk ts (k + 1) x y z - T t (skn x y z (k + (0 : Nat))) = wk ts (k + 1) x y z by
        rw [show k + ((0 : Nat) : Int) = k by omega]; omega]
      exact h5
    | succ i =>
      have h3 := ih i (k + 1) (by simpa using h)
      simp only [List.eraseIdx_cons_succ, wk, List.getD_cons_succ]
      refine ⟨_, h1, _, by rw [h2]; exact h3, ?_⟩
      rw [show k + ((i + 1 : Nat) : Int) = k + 1 + (i : Int) by omega]
      omega

/-- Without a bidder there is no more. -/
theorem got_back {ts : List (List Int)} (hz : ∀ t ∈ ts, T t 0 = 0) : ∀ (i X : Nat) (v : Int), i < ts.length → Got (ts.eraseIdx i) X v → Got ts X v := by
  induction ts with
  | nil => intro i X v h; simp at h
  | cons t ts ih =>
    intro i X v h hg
    cases i with
    | zero =>
      refine ⟨0, sub_zero X, v, by simpa using hg, ?_⟩
      rw [hz t (by simp)]; omega
    | succ i =>
      simp only [List.eraseIdx_cons_succ] at hg
      obtain ⟨s, hs, u, hu, rfl⟩ := hg
      exact ⟨s, hs, u, ih (fun t ht => hz t (List.mem_cons_of_mem _ ht)) i _ _ (by simpa using h) hu, rfl⟩

/-- What is had with a bidder is had without, but for the bidder's own. -/
theorem got_out {ts : List (List Int)} : ∀ (i X : Nat) (v : Int), X < 8 → i < ts.length → Got ts X v → ∃ s, s ∈ subs X ∧ ∃ u, Got (ts.eraseIdx i) X u ∧ v = T (ts.getD i []) s + u := by
  induction ts with
  | nil => intro i X v _ h; simp at h
  | cons t ts ih =>
    rintro i X v hX h ⟨s, hs, u, hu, rfl⟩
    cases i with
    | zero =>
      refine ⟨s, hs, u, ?_, by simp⟩
      simp only [List.eraseIdx_zero, List.tail_cons]
      exact got_more hX (sub_rest hX hs).1 hu
    | succ i =>
      obtain ⟨s', hs', u', hu', rfl⟩ := ih i (X - s) u (sub_lt hX hs) (by simpa using h) hu
      obtain ⟨r1, r2, r3⟩ := sub_sub hX hs hs'
      refine ⟨s', r1, T t s + u', ?_, by simp; omega⟩
      simp only [List.eraseIdx_cons_succ]
      refine ⟨s, hs, u', hu', rfl⟩

theorem worthF_le {ts : List (List Int)} (os : List Int) : worthF ts os ≤ sv ts 7 :=
  got_le (got_more (by omega) (in7 (ge_lt _ _ _ _)) (wk_got ts _ _ _ 0))
theorem othersv_le {ts : List (List Int)} (os : List Int) {i : Nat} (h : i < ts.length) : worthF ts os - T (ts.getD i []) (setOf os i) ≤ sv (ts.eraseIdx i) 7 := by
  have h1 := got_others ts (os.getD 0 0) (os.getD 1 0) (os.getD 2 0) i 0 h
  have h2 := got_le (got_more (by omega) (in7 (ge_lt _ _ _ _)) h1)
  rw [Int.zero_add] at h2
  exact h2
theorem without_le {ts : List (List Int)} (hz : ∀ t ∈ ts, T t 0 = 0) {i : Nat} (h : i < ts.length) : sv (ts.eraseIdx i) 7 ≤ sv ts 7 :=
  got_le (got_back hz i 7 _ h (got_sv (fun t ht => hz t (mem_erase ht)) 7))
theorem VT.top {t : List Int} (h : VT t) {s : Nat} (hs : s < 8) : T t s ≤ T t 7 := by
  obtain ⟨h0, h1, h2, h3, h4, h5, h6, h7, h8⟩ := h.all
  rcases nat8 hs with rfl | rfl | rfl | rfl | rfl | rfl | rfl | rfl <;> omega
theorem without_ge {ts : List (List Int)} (hv : ∀ t ∈ ts, VT t) {i : Nat} (h : i < ts.length) : sv ts 7 ≤ sv (ts.eraseIdx i) 7 + T (ts.getD i []) 7 := by
  obtain ⟨s, hs, u, hu, he⟩ := got_out i 7 _ (by omega) h (got_sv (fun t ht => (hv t ht).2.1) 7)
  have h1 := got_le hu
  have h2 := (hv _ (getD_mem h)).top (subs_lt hs)
  omega

theorem VTs.zeros {ts : List (List Int)} (h : ∀ t ∈ ts, VT t) : ∀ t ∈ ts, T t 0 = 0 := fun t ht => (h t ht).2.1

/-- What the truth has is what is added. -/
theorem truth_has {ts : List (List Int)} (hv : ∀ t ∈ ts, VT t) (hn : ts.length ≤ 4) (i : Nat) : T (ts.getD i []) (setOf (wayF ts) i) - pvF ts i = adF ts i := by
  unfold pvF adF
  rw [wayF_worth (VTs.zeros hv) hn]; omega
theorem pv_nn {ts : List (List Int)} {i : Nat} (h : i < ts.length) : 0 ≤ pvF ts i := by
  have := othersv_le (wayF ts) h
  unfold pvF; omega
theorem pv_le {ts : List (List Int)} (hv : ∀ t ∈ ts, VT t) (hn : ts.length ≤ 4) {i : Nat} (h : i < ts.length) : pvF ts i ≤ T (ts.getD i []) (setOf (wayF ts) i) := by
  have h1 := without_le (VTs.zeros hv) h
  have h2 := truth_has hv hn i
  unfold adF at h2
  omega
theorem ad_nn {ts : List (List Int)} (hv : ∀ t ∈ ts, VT t) {i : Nat} (h : i < ts.length) : 0 ≤ adF ts i := by
  have h1 := without_le (VTs.zeros hv) h
  unfold adF; omega
theorem ad_le {ts : List (List Int)} (hv : ∀ t ∈ ts, VT t) {i : Nat} (h : i < ts.length) : adF ts i ≤ T (ts.getD i []) 7 := by
  have h1 := without_ge hv h
  unfold adF; omega

/-- Another table told: what all have by a way differs by that bidder's own. -/
theorem wk_set (x y z : Int) (t : List Int) : ∀ (ts : List (List Int)) (i : Nat) (k : Int), i < ts.length → wk (ts.set i t) k x y z - T t (skn x y z (k + i)) = wk ts k x y z - T (ts.getD i []) (skn x y z (k + i)) := by
  intro ts
  induction ts with
  | nil => intro i k h; simp at h
  | cons u ts ih =>
    intro i k h
    cases i with
    | zero =>
      simp only [List.set_cons_zero, wk, List.getD_cons_zero]
      rw [show k + ((0 : Nat) : Int) = k by omega]; omega
    | succ i =>
      have := ih i (k + 1) (by simpa using h)
      simp only [List.set_cons_succ, wk, List.getD_cons_succ]
      rw [show k + ((i + 1 : Nat) : Int) = k + 1 + (i : Int) by omega]
      omega
theorem worthF_set {ts : List (List Int)} (os : List Int) {i : Nat} (t : List Int) (h : i < ts.length) : worthF (ts.set i t) os - T t (setOf os i) = worthF ts os - T (ts.getD i []) (setOf os i) := by
  have := wk_set (os.getD 0 0) (os.getD 1 0) (os.getD 2 0) t ts i 0 h
  rw [Int.zero_add] at this
  exact this
theorem erase_set {ts : List (List Int)} (i : Nat) (t : List Int) : (ts.set i t).eraseIdx i = ts.eraseIdx i := by
  induction ts generalizing i with
  | nil => simp
  | cons u ts ih => cases i with
    | zero => simp
    | succ i => simp [ih]
/-- What bidder i has when t is told. -/
noncomputable def gtF (ts : List (List Int)) (i : Nat) (t : List Int) : Int := T (ts.getD i []) (setOf (wayF (ts.set i t)) i) - pvF (ts.set i t) i
theorem set_get {ts : List (List Int)} {i : Nat} (h : i < ts.length) : ts.set i (ts.getD i []) = ts := by
  rw [List.getD_eq_getElem?_getD, List.getElem?_eq_getElem h]; simp
theorem getD_set {ts : List (List Int)} {i : Nat} (t : List Int) (h : i < ts.length) : (ts.set i t).getD i [] = t := by
  rw [List.getD_eq_getElem?_getD, List.getElem?_set_self h]; rfl
theorem gt_truth {ts : List (List Int)} (hv : ∀ t ∈ ts, VT t) (hn : ts.length ≤ 4) {i : Nat} (h : i < ts.length) : gtF ts i (ts.getD i []) = adF ts i := by
  unfold gtF
  rw [set_get h, truth_has hv hn]
theorem gt_le {ts : List (List Int)} {i : Nat} (t : List Int) (h : i < ts.length) : gtF ts i t ≤ adF ts i := by
  unfold gtF pvF adF
  rw [getD_set t h, erase_set]
  have h1 := worthF_set (wayF (ts.set i t)) t h
  have h2 := worthF_le (ts := ts) (wayF (ts.set i t))
  omega

/-- The sum of what all have is the worth of the way. -/
def hasTo (ts : List (List Int)) (os : List Int) : Nat → Int
  | 0 => 0
  | k + 1 => hasTo ts os k + T (ts.getD k []) (setOf os k)
theorem hasTo_is {ts : List (List Int)} (os : List Int) : ∀ k, k ≤ ts.length → hasTo ts os k = worthF (ts.take k) os
  | 0, _ => by simp [hasTo, worthF, wk]
  | k + 1, h => by
    have h1 : ts[k]? = some (ts.getD k []) := by rw [List.getD_eq_getElem?_getD, List.getElem?_eq_getElem (by omega)]; rfl
    rw [worthF_step os h1, ← hasTo_is os k (by omega)]; rfl
/-- What all pay. -/
noncomputable def paidTo (ts : List (List Int)) : Nat → Int
  | 0 => 0
  | k + 1 => paidTo ts k + pvF ts k
theorem paidTo_bd {ts : List (List Int)} (hv : ∀ t ∈ ts, VT t) (hn : ts.length ≤ 4) : ∀ k, k ≤ ts.length → 0 ≤ paidTo ts k ∧ paidTo ts k ≤ hasTo ts (wayF ts) k
  | 0, _ => by simp [paidTo, hasTo]
  | k + 1, h => by
    have h1 := paidTo_bd hv hn k (by omega)
    have h2 := pv_nn (ts := ts) (i := k) (by omega)
    have h3 := pv_le hv hn (i := k) (by omega)
    simp only [paidTo, hasTo]
    omega
theorem paid_le {ts : List (List Int)} (hv : ∀ t ∈ ts, VT t) (hn : ts.length ≤ 4) : 0 ≤ paidTo ts ts.length ∧ paidTo ts ts.length ≤ sv ts 7 := by
  have h := paidTo_bd hv hn ts.length (Nat.le_refl _)
  rw [hasTo_is _ _ (Nat.le_refl _), List.take_length, wayF_worth (VTs.zeros hv) hn] at h
  exact h
theorem pv_bd {ts : List (List Int)} (hv : ∀ t ∈ ts, VT t) (hn : ts.length ≤ 4) {i : Nat} (h : i < ts.length) : 0 ≤ pvF ts i ∧ pvF ts i ≤ 30 :=
  ⟨pv_nn h, by have h1 := pv_le hv hn h; have h2 := (hv _ (getD_mem h)).bd (setOf_lt (wayF ts) i); omega⟩

end Go.Proofs.Ytfjncipekjnbjaa

/-
  Chapter 5, the model: the contracts of all, others, pivot, PivotPays, AddsOf.
-/
namespace Go.Proofs.Ytfjncipekjnbjaa
open Go.RowKit

theorem Sall_any (w : World) : Calls Try.prog 113 #[] w fun e w' => e = .returned (.int .i64 7) ∧ w = w' := by
  go_enter Try.func113, Try.ntmps113
  go_wp2_with fail
  refine (Spower_any 3 (by omega) w).mono ?_
  rintro e w1 ⟨rfl, rfl⟩
  go_wp2
  go_ret
  exact ⟨rfl, rfl⟩

set_option maxHeartbeats 1000000 in
theorem Sothers_any (b off c i n : Nat) (ts : List (List Int)) (w : World) (hn : ts.length = n) (hR : RdR w (some ⟨b, off, none⟩) c ts) (hi : i < n) (hl : n ≤ 1000) :
    Calls Try.prog 121 #[.slice (some ⟨b, off, none⟩) n c, .int .i64 i] w (CopyIs w (ts.eraseIdx i) (n - 1)) := by
  obtain ⟨vs, hvs, hcell⟩ := hR.vals
  have hb0 : Below w.heap.size w (w.drew.alloc (.cells #[] 24)) := (below_drewN' (Below.refl w.heap.size w) 1).alloc (Nat.le_refl _) (.cells #[] 24)
  have hvl : vs.length = n := by rw [hvs.1, hn]
  have hc : n ≤ c := by rw [← hn]; exact hR.1
  have HV := Lib.hid hvs
  have HC := Lib.hid (fun (w1 : World) (hb : Below w.heap.size w w1) (k : Nat) (v : Value) (h : vs[k]? = some v) => (hb.cell (p := ⟨b, off + k, none⟩) (World.block_lt_of_cell? w _ (hcell k v h))).trans (hcell k v h))
  have hone := hvs.oneCell
  have HO := Lib.hid hone
  have ho := row_empty w.drew
  have hwi : IntKind.i64.wrap ((i : Int) + 1) = ((i + 1 : Nat) : Int) := IntWalk.i64_in _ (by omega)
  have hi1 : i + 1 ≤ n := hi
  have hic : i ≤ c := by omega
  have hi1c : i + 1 ≤ c := by omega
  clear hR hvs hcell hone
  have hadd : ∀ o j, (⟨b, o, none⟩ : Addr).add j = ⟨b, o + j, none⟩ := fun o j => by unfold Addr.add; split <;> simp_all
  have HAD := Lib.hid hadd
  have hb1 : Below w.heap.size w (w.alloc (.cells #[] 24)).drew := below_drewN' ((Below.refl w.heap.size w).alloc (Nat.le_refl _) (.cells #[] 24)) 1
  have HO1 : Hid ((w.alloc (.cells #[] 24)).drew.ownsRow w.heap.size 24 1 (.slice (some ⟨w.heap.size, 0, none⟩) 0 0) 0 []) := Lib.hid (row_empty w)
  have HN1 : Hid (∀ (W : World), Below w.heap.size w W → ∀ j u, (vs.take i)[j]? = some u → W.cell? ((⟨b, off, none⟩ : Addr).add j) = some u) := Lib.hid (fun W hW j u hu => by
    rw [HAD.out]; refine HC.out W hW j u ?_
    rw [List.getElem?_take] at hu; split at hu
    · exact hu
    · cases hu)
  have HN2 : Hid (∀ (W : World), Below w.heap.size w W → ∀ j u, (vs.drop (i + 1))[j]? = some u → W.cell? ((⟨b, off + (i + 1), none⟩ : Addr).add j) = some u) := Lib.hid (fun W hW j u hu => by
    rw [HAD.out, Nat.add_assoc]; refine HC.out W hW _ u ?_
    rw [List.getElem?_drop] at hu
    exact hu)
  have HTL : Hid ((vs.take i).length = i) := Lib.hid (by rw [List.length_take]; omega)
  have HDL : Hid ((vs.drop (i + 1)).length = n - (i + 1)) := Lib.hid (by rw [List.length_drop]; omega)
  have HT1 : Hid (∀ u ∈ vs.take i, u.oneCell' = true) := Lib.hid (fun u hu => HO.out u (List.mem_of_mem_take hu))
  have HT2 : Hid (∀ u ∈ vs.drop (i + 1), u.oneCell' = true) := Lib.hid (fun u hu => HO.out u (List.mem_of_mem_drop hu))
  have HEC : Hid (vs.take i ++ vs.drop (i + 1) = vs.eraseIdx i) := Lib.hid (erase_cut vs i)
  clear hadd
  by_cases hci : c = i + 1
  · subst hci
    obtain rfl : n = i + 1 := by omega
    have HT3 : Hid (vs.take i = vs.eraseIdx i) := Lib.hid (by
      rw [← HEC.out, List.drop_eq_nil_of_le (by omega), List.append_nil])
    have hi0 : i + 1 - (i + 1) = 0 := by omega
    have q1 : (i : Int) ≤ (i : Int) + 1 := by omega
    have q2 : (0 : Int) ≤ (i : Int) + 1 := by omega
    clear HN2 HDL HT2 HEC
    go_enter Try.func121, Try.ntmps121
    go_wp2_with fail
    go_region_law (first
      | (refine step_append_rows rfl _ _ rfl w.heap.size w.heap.size 0 0 [] rfl HO1.out ⟨b, off, none⟩ _ i (vs.take i) rfl HTL.out (HN1.out _ hb1) HT1.out i (by omega) (by omega) hb1.size ?_; intro g2 c2 w2 o2 g2'; have B2 : Below w.heap.size w w2 := hb1.grown g2' hb1.size (fun k e => by cases e; exact Nat.le_refl _); rw [List.nil_append] at o2)
      | (refine step_append_rows rfl _ _ rfl w.heap.size g2 c2 i (vs.take i) rfl o2 ⟨b, off, none⟩ _ 0 [] rfl rfl (fun j u hu => by simp at hu) (fun u hu => by simp at hu) i (by omega) (by omega) B2.size ?_; intro g3 c3 w3 o3 g3'; have B3 : Below w.heap.size w w3 := B2.grown g3' B2.size (fun k e => by cases e; exact (World.ownsRow.lt o2 g2 rfl).1); rw [List.append_nil, HT3.out] at o3))
    go_wp2
    go_ret
    exact ⟨g3, c3, vs.eraseIdx i, rfl, o3, HV.out.erase i, B3⟩
  · have q2 : (0 : Int) ≤ (i : Int) + 1 := by omega
    have q3 : (i : Int) + 1 ≤ (n : Int) := by omega
    go_enter Try.func121, Try.ntmps121
    go_wp2_with fail
    go_region_law (first
      | (refine step_append_rows rfl _ _ rfl w.heap.size w.heap.size 0 0 [] rfl HO1.out ⟨b, off, none⟩ _ i (vs.take i) rfl HTL.out (HN1.out _ hb1) HT1.out i (by omega) (by omega) hb1.size ?_; intro g2 c2 w2 o2 g2'; have B2 : Below w.heap.size w w2 := hb1.grown g2' hb1.size (fun k e => by cases e; exact Nat.le_refl _); rw [List.nil_append] at o2)
      | (refine step_append_rows rfl _ _ rfl w.heap.size g2 c2 i (vs.take i) rfl o2 ⟨b, off + (i + 1), none⟩ _ (n - (i + 1)) (vs.drop (i + 1)) rfl HDL.out (HN2.out _ B2) HT2.out (n - 1) (by omega) (by omega) B2.size ?_; intro g3 c3 w3 o3 g3'; have B3 : Below w.heap.size w w3 := B2.grown g3' B2.size (fun k e => by cases e; exact (World.ownsRow.lt o2 g2 rfl).1); rw [HEC.out] at o3))
    go_wp2
    go_ret
    exact ⟨g3, c3, vs.eraseIdx i, rfl, o3, HV.out.erase i, B3⟩

end Go.Proofs.Ytfjncipekjnbjaa

/-
  Chapter 5, the model: the contracts of pivot, PivotPays, AddsOf.
-/
namespace Go.Proofs.Ytfjncipekjnbjaa
open Go.RowKit

set_option maxRecDepth 100000 in
set_option maxHeartbeats 2000000 in
theorem Spivot_any (A : Option Addr) (c n : Nat) (ts : List (List Int)) (w : World) (hn : ts.length = n) (hR : RdR w A c ts) (hv : VTs ts) :
    Calls Try.prog 74 #[.slice A n c] w (ValsIs w (pvF ts) n) := by
  have hl : n ≤ 4 := by rw [← hn]; exact hv.1.2
  have h1l : 1 ≤ n := by rw [← hn]; exact hv.1.1
  obtain ⟨b, off, rfl, hcapR, _⟩ := hR.open_ (by rw [hn]; exact h1l)
  have HA := Lib.hid (SbestSplit_any (some ⟨b, off, none⟩) c n ts w hR hv hn)
  have HV := Lib.hid hv
  have HN := Lib.hid hn
  obtain ⟨os, hos⟩ : ∃ os, os = wayF ts := ⟨_, rfl⟩
  rw [← hos] at HA
  have HOS := Lib.hid hos
  clear hv hn hos
  go_enter Try.func74, Try.ntmps74
  go_wp2_with fail
  refine HA.out.mono ?_
  rintro e w1 ⟨g, d, rfl, o1, b1⟩
  have HW := Lib.hid (SsumSets_any (some ⟨b, off, none⟩) (some ⟨g, 0, none⟩) c d n ts os w1 (hR.below b1) HV.out.2 o1.rd HN.out hl)
  have hvb := worthF_bd HV.out.2 os
  rw [HN.out] at hvb
  obtain ⟨V, hV⟩ : ∃ V, V = worthF ts os := ⟨_, rfl⟩
  rw [← hV] at HW hvb
  have HVE := Lib.hid hV
  have hv0 := hvb.1
  have hv1 := hvb.2
  clear hV hvb
  go_wp2_with fail
  refine HW.out.mono ?_
  rintro e w2 ⟨rfl, m, rfl⟩
  have B1 : Below w.heap.size w (w1.drewN m) := below_drewN' b1 m
  have B2 := B1.alloc B1.size (.cells #[] 3)
  have HH2 : Hid (Own ((w1.drewN m).alloc (.cells #[] 3)) w.heap.size (some ⟨g, 0, none⟩) d (setsF os n)) := Lib.hid ((o1.drewN m).below ((Below.refl _ _).alloc (Nat.le_refl _) _))
  have HO2 : Hid (Own ((w1.drewN m).alloc (.cells #[] 3)) (w1.drewN m).heap.size (some ⟨(w1.drewN m).heap.size, 0, none⟩) 0 (vls (pvF ts) 0)) := Lib.hid (own_new_ints _)
  have hgl : g < (w1.drewN m).heap.size := o1.lt
  have hws : w.heap.size ≤ (w1.drewN m).heap.size := B1.size
  obtain ⟨S, hS⟩ : ∃ S, S = w1.heap.size := ⟨_, rfl⟩
  have e1 : (w1.drewN m).heap.size = S := hS.symm
  rw [e1] at HO2 hgl hws
  obtain ⟨f, hf⟩ : ∃ f, f = pvF ts := ⟨_, rfl⟩
  rw [← hf] at HO2
  have HF := Lib.hid hf
  rw [← hf]
  clear hf o1 b1
  go_wp2
  rw [← hS]
  clear e1 hS
  go_loopw [5, 6] (fun o i wr => ∃ (j g2 c2 : Nat), j ≤ n ∧ i = .int .i64 j ∧ o = .slice (some ⟨g2, 0, none⟩) j c2 ∧ Hid (Own wr S (some ⟨g2, 0, none⟩) c2 (vls f j)) ∧ Hid (Own wr w.heap.size (some ⟨g, 0, none⟩) d (setsF os n)) ∧ Below w.heap.size w wr) (fun _ i _ => n - (intOf i).toNat)
  case atStart => exact ⟨0, S, 0, Nat.zero_le _, rfl, rfl, HO2, HH2, B2⟩
  case round =>
    obtain ⟨j, g2, c2, hj, rfl, rfl, HO, HG, hb⟩ := hrel
    by_cases hlt : j < n
    · obtain ⟨b', off', r, A', c', hA, hr, hc0, hcap, hrd⟩ := hR.at_ (k := j) (by rw [HN.out]; exact hlt)
      cases hA
      have hvt := HV.out.2 r (List.mem_of_getElem? hr.out)
      obtain ⟨br, ofr, rfl⟩ := hrd.out.some_ hvt.1
      rw [hvt.1] at hc0
      obtain ⟨s, hs⟩ : ∃ s, s = setOf os j := ⟨_, rfl⟩
      have hs8 : s < 8 := by rw [hs]; exact setOf_lt os j
      obtain ⟨b3, o3, x, hA, hblx, hx, hcx0⟩ := hrd.out.at_ (k := s) (by rw [hvt.1]; exact hs8)
      cases hA
      have hxe := T_of hx.out
      have hxb := hvt.bd hs8
      rw [hxe] at hxb
      have hx0 := hxb.1
      have hx1 := hxb.2
      have hst : (setsF os n)[j]? = some (s : Int) := by rw [setsF_at os hlt, hs]
      have HBL := Lib.hid (World.block_lt_of_cell? w _ hc0)
      have HBX := Lib.hid hblx
      have HK := Lib.hid (fun (W : World) (hW : Below w.heap.size w W) (hg : Own W w.heap.size (some ⟨g, 0, none⟩) d (setsF os n)) =>
        (⟨(hW.cell (p := ⟨b, off + j, none⟩) HBL.out).trans hc0, hg.cell hst, (hW.cell (p := ⟨br, ofr + s, none⟩) HBX.out).trans hcx0⟩ : W.cell? ⟨b, off + j, none⟩ = some (.slice (some ⟨br, ofr, none⟩) 8 c') ∧ W.cell? ⟨g, j, none⟩ = some (.int .i64 (s : Int)) ∧ W.cell? ⟨br, ofr + s, none⟩ = some (.int .i64 x)))
      have hel : (ts.eraseIdx j).length = n - 1 := by rw [erase_len (by rw [HN.out]; exact hlt), HN.out]
      have hev : ∀ t ∈ ts.eraseIdx j, VT t := fun t ht => HV.out.2 t (mem_erase ht)
      have hsv0 := sv_nonneg (ts.eraseIdx j) 7
      have hsv1 := sv_bd hev 7 (by omega)
      have HSO := Lib.hid (fun (W : World) (hW : Below w.heap.size w W) => Sothers_any b off c j n ts W HN.out (hR.below hW) hlt (by omega))
      have HSP := Lib.hid (fun (W : World) (g5 c5 : Nat) (h5 : RdR W (some ⟨g5, 0, none⟩) c5 (ts.eraseIdx j)) => SsplitValue_any (ts.eraseIdx j) (some ⟨g5, 0, none⟩) c5 7 W h5 hev (by omega) (by omega))
      rw [hel] at hsv1 HSP
      obtain ⟨M, hM⟩ : ∃ M, M = sv (ts.eraseIdx j) 7 := ⟨_, rfl⟩
      rw [← hM] at hsv0 hsv1 HSP
      have HFE : Hid (M - (V - x) = f j) := Lib.hid (by
        rw [HF.out]; unfold pvF; rw [← HOS.out, hM, HVE.out, ← hs, getD_row hr.out, hxe])
      have hM1 : M ≤ 90 := by omega
      have hV1 : V ≤ 120 := by omega
      have e1 : IntKind.i64.wrap (V - x) = V - x := IntWalk.i64_in _ (by omega)
      have e2 : IntKind.i64.wrap (M - (V - x)) = M - (V - x) := IntWalk.i64_in _ (by omega)
      have hs0 : (0 : Int) ≤ (s : Int) := by omega
      have hs7 : (s : Int) < 8 := by omega
      have hK0 := HK.out wr.drew (below_drewN' hb 1) (HG.out.drewN 1)
      have hbd : Below w.heap.size w wr.drew := below_drewN' hb 1
      have HEL := Lib.hid hel
      clear hs hvt hxe hxb hx hst hrd hc0 hcx0 hev hM hsv1 hr hel hblx
      have HGL : Hid (∀ (W W' : World), Own W w.heap.size (some ⟨g, 0, none⟩) d (setsF os n) → W.grownBy W' (ofA (some ⟨g2, 0, none⟩)) → Own W' w.heap.size (some ⟨g, 0, none⟩) d (setsF os n)) := Lib.hid (fun W W' h hg => h.kept_ hg (.inr (fun e => by
        have h1 := Option.some.inj e; have h2 := HO.out.ge; simp at h1; omega)))
      have HBL : Hid (∀ (W W' : World), Below w.heap.size w W → Own W S (some ⟨g2, 0, none⟩) c2 (vls f j) → W.grownBy W' (ofA (some ⟨g2, 0, none⟩)) → Below w.heap.size w W') := Lib.hid (fun W W' h ho hg => Own.grownBelow0 h (ho.base hws) h.size hg)
      have hn63 : j + 1 ≤ 1099511627776 := by omega
      go_wp2_with fail
      go_region_held3 (fun W => W.cell? ⟨b, off + j, none⟩ = some (.slice (some ⟨br, ofr, none⟩) 8 c') ∧ W.cell? ⟨g, j, none⟩ = some (.int .i64 (s : Int)) ∧ W.cell? ⟨br, ofr + s, none⟩ = some (.int .i64 x))
        (first | exact hK0 | exact hK5 | exact hK7 | exact hK8 | exact hK9 | fail)
        (first
        | (go_at_call 121; refine (HSO.out _ hbd).mono ?_; rintro e w5 ⟨g5, c5, vs5, rfl, o5, v5, b5⟩; have B5 := hbd.trans (b5.mono hbd.size); have hR5 := Lib.hid (CopyIs.shape_ o5 v5 HEL.out b5); have HO5 := Lib.hid ((HO.out.drewN 1).below b5); have HG5 := Lib.hid ((HG.out.drewN 1).below b5); have hK5 := HK.out w5 B5 HG5.out)
        | (go_at_call 113; refine (Sall_any _).mono ?_; rintro e w6 ⟨rfl, rfl⟩)
        | (go_at_call 94; refine (HSP.out _ g5 c5 hR5.out).mono ?_; rintro e w7 ⟨rfl, m7, rfl⟩; have B7 := below_drewN' B5 m7; have HG7 := Lib.hid (HG5.out.drewN m7); have hK7 := HK.out _ B7 HG7.out; have hal := (Below.refl (w5.drewN m7).heap.size (w5.drewN m7)).alloc (Nat.le_refl _) (.cells #[.int .i64 (M - (V - x))] 3); have HO8 := Lib.hid ((HO5.out.drewN m7).below hal); have HG8 := Lib.hid (HG7.out.below hal); have B8 := B7.trans (hal.mono B7.size); have HX := Lib.hid (ints_one (w5.drewN m7) (M - (V - x))); have hK8 := HK.out _ B8 HG8.out; have hS8 : S ≤ ((w5.drewN m7).alloc (.cells #[.int .i64 (M - (V - x))] 3)).heap.size := Nat.le_trans HO8.out.ge (Nat.le_of_lt HO8.out.lt))
        | (refine step_append_one rfl _ _ 24 Try.underlying24 rfl S (some ⟨g2, 0, none⟩) c2 (vls f j) j (vls_len _ _) rfl HO8.out (some ⟨w5.heap.size, 0, none⟩) 1 (M - (V - x)) rfl HX.out hn63 hS8 ?_; intro g9 c9 w9 o9 g9'; have B9 := HBL.out _ _ B8 HO8.out g9'; have HG9 := Lib.hid (HGL.out _ _ HG8.out g9'); have hK9 := HK.out w9 B9 HG9.out)
        | fail)
      have HO9 : Hid (Own w9 S (some ⟨g9, 0, none⟩) c9 (vls f (j + 1))) := Lib.hid (by rw [vls_more, ← HFE.out]; exact o9)
      go_wp2
      go_roundw
      case rel => exact ⟨j + 1, g9, c9, by omega, by go_num, rfl, HO9, HG9, B9⟩
      case measure => simp [intOf]; omega
    · obtain rfl : j = n := by omega
      go_wp2
      go_ret
      exact ⟨g2, c2, rfl, by rw [← HF.out]; exact HO.out.base hws, hb⟩

end Go.Proofs.Ytfjncipekjnbjaa

/-
  Chapter 5, the model: the contracts of PivotPays and AddsOf.
-/
namespace Go.Proofs.Ytfjncipekjnbjaa
open Go.RowKit

/-- What a call hands back: numbers, in a block of its own or none. -/
def LsIs (w : World) (zs : List Int) (e : Ending) (w' : World) : Prop := ∃ A c, e = .returned (.slice A zs.length c) ∧ Own w' w.heap.size A c zs ∧ Below w.heap.size w w'
theorem ValsIs.ls {w : World} {f : Nat → Int} {n : Nat} {e : Ending} {w' : World} (h : ValsIs w f n e w') : LsIs w (vls f n) e w' := by
  obtain ⟨g, c, rfl, ho, hb⟩ := h
  exact ⟨some ⟨g, 0, none⟩, c, by rw [vls_len], ho, hb⟩
theorem ValsIs.up {w w0 : World} {f : Nat → Int} {n : Nat} {e : Ending} {w' : World} (h : ValsIs w0 f n e w') (hb : Below w.heap.size w w0) : ValsIs w f n e w' := by
  obtain ⟨g, c, rfl, ho, hb'⟩ := h
  exact ⟨g, c, rfl, ho.base hb.size, hb.trans (hb'.mono hb.size)⟩
open Classical in
/-- What PivotPays tells. -/
noncomputable def piF (ts : List (List Int)) : List Int := if VTs ts then vls (pvF ts) ts.length else []
open Classical in
/-- What AddsOf tells. -/
noncomputable def adL (ts : List (List Int)) : List Int := if VTs ts then vls (adF ts) ts.length else []
theorem piF_len (ts : List (List Int)) : (piF ts).length ≤ 1000 := by
  unfold piF; split
  · rename_i h; rw [vls_len]; have := h.1.2; omega
  · simp
theorem adL_len (ts : List (List Int)) : (adL ts).length ≤ 1000 := by
  unfold adL; split
  · rename_i h; rw [vls_len]; have := h.1.2; omega
  · simp

end Go.Proofs.Ytfjncipekjnbjaa
