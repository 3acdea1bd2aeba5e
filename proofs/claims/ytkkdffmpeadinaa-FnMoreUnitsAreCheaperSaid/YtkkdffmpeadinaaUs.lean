/-
  Chapter 3, the model: the contract of EachUnits.
-/
import Derived.Test.YtkkdffmpeadinaaUr
namespace Go.Proofs.Ytkkdffmpeadinaa
open Go.RowKit

theorem lst_one (h : Nat → Nat) {n i : Nat} (hi : i < n) : ((lst h n).drop i).take 1 = lst (fun _ => h i) 1 := by
  apply List.ext_getElem?; intro q
  rw [List.getElem?_take]
  rcases Nat.lt_or_ge q 1 with hq | hq
  · obtain rfl : q = 0 := by omega
    rw [if_pos hq, List.getElem?_drop, Nat.add_zero, lst_at hi, lst_at hq]
  · rw [if_neg (by omega), List.getElem?_eq_none (by rw [lst_len]; exact hq)]
theorem rows_one {rows : List (List Int)} {i : Nat} {r : List Int} (hr : rows[i]? = some r) : (rows.drop i).take 1 = [r] := by
  obtain ⟨hi, rfl⟩ := List.getElem?_eq_some_iff.1 hr
  rw [List.drop_eq_getElem_cons hi]
  rfl

theorem below_after {w wr : World} {B : Nat} (hb : Below B w wr) (hB : B ≤ wr.heap.size) (n : Nat) (o : Obj) : Below B w (((wr.drew).drewN n).alloc o) :=
  (below_drewN' (below_drewN' hb 1) n).alloc hB o
theorem own_after {wr : World} {B : Nat} {A : Option Addr} {c : Nat} {zs : List Int} (h : Own wr B A c zs) (n : Nat) (o : Obj) : Own (((wr.drew).drewN n).alloc o) B A c zs :=
  h.below (below_after (Below.refl _ wr) (Nat.le_refl _) n o)
theorem below_after2 {w wr : World} {B : Nat} (hb : Below B w wr) (hB : B ≤ wr.heap.size) (n : Nat) (o : Obj) : Below B w ((wr.drewN n).alloc o) := (below_drewN' hb n).alloc hB o
theorem own_after2 {wr : World} {B : Nat} {A : Option Addr} {c : Nat} {zs : List Int} (h : Own wr B A c zs) (n : Nat) (o : Obj) : Own ((wr.drewN n).alloc o) B A c zs :=
  h.below (below_after2 (Below.refl _ wr) (Nat.le_refl _) n o)
theorem worth_n (A B : Option Addr) (c d n : Nat) (rows : List (List Int)) (h : Nat → Nat) (w : World) (hn : rows.length = n) (hR : RdR w A c rows) (hB : Rd w B d (lst h n)) (hl : n ≤ 4) (hg : Good (RW rows) n) (hh : ∀ i, i < n → h i ≤ (RW rows i).length) :
    Calls Try.prog 66 #[.slice A n c, .slice B n d] w fun e w' => e = .returned (.int .i64 (val (RW rows) h n)) ∧ ∃ n, w' = w.drewN n := by
  subst hn; exact worth_any A B c d rows h w hR hB hl hg hh

set_option maxHeartbeats 2000000 in
theorem SEachUnits_yes (A : Option Addr) (c k : Nat) (rows : List (List Int)) (w : World) (hR : RdR w A c rows) (hv : VD rows) (hk : k ≤ 5) :
    Calls Try.prog 32 #[.slice A rows.length c, .int .i64 k] w (ValsIs w (fun i => pre (RW rows i) (aw (RW rows) rows.length k i)) rows.length) := by
  have hl : rows.length ≤ 4 := hv.1.2
  have h1l : 1 ≤ rows.length := hv.1.1
  obtain ⟨b, off, rfl, hcapR, _⟩ := hR.open_ h1l
  have HC := Lib.hid (validUnits_any (some ⟨b, off, none⟩) c rows k w hR (by have := hv.1; omega) hv.lens)
  rw [fuB_yes hv hk] at HC
  have HA := Lib.hid (fun n => award_yes (some ⟨b, off, none⟩) c rows k (w.drewN n) (hR.drewN n) hv hk)
  have HV := Lib.hid hv
  have HFA := Lib.hid (fair_aw hv.good k)
  obtain ⟨h, hh⟩ : ∃ h, h = aw (RW rows) rows.length k := ⟨_, rfl⟩
  rw [← hh] at HA HFA ⊢
  obtain ⟨f, hf⟩ : ∃ f : Nat → Int, f = fun i => pre (RW rows i) (h i) := ⟨_, rfl⟩
  rw [← hf]
  have HF := Lib.hid hf
  clear hv hh hf
  go_enter Try.func32, Try.ntmps32
  go_wp2_with fail
  refine HC.out.mono ?_
  rintro e w0 ⟨rfl, m, rfl⟩
  go_wp2_with fail
  refine (HA.out m).mono ?_
  rintro e w1 ⟨g, d, rfl, o1, b1⟩
  have B1 : Below w.heap.size w w1 := (below_drewN' (Below.refl _ w) m).trans b1
  have B2 := B1.alloc B1.size (.cells #[] 3)
  have HH2 : Hid (Own (w1.alloc (.cells #[] 3)) w.heap.size (some ⟨g, 0, none⟩) d (lst h rows.length)) := Lib.hid (o1.below ((Below.refl _ _).alloc (Nat.le_refl _) _))
  have HO2 : Hid (Own (w1.alloc (.cells #[] 3)) w1.heap.size (some ⟨w1.heap.size, 0, none⟩) 0 (vls f 0)) := Lib.hid (own_new_ints _)
  have hgl : g < w1.heap.size := o1.lt
  have hws : w.heap.size ≤ w1.heap.size := B1.size
  have hcapd : rows.length ≤ d := by have := o1.cap.1; rwa [lst_len] at this
  obtain ⟨S, hS⟩ : ∃ S, S = w1.heap.size := ⟨_, rfl⟩
  rw [← hS] at HO2 hgl hws
  clear o1 b1 B1
  go_wp2
  rw [← hS]
  clear hS
  go_loopw [6, 7] (fun o i wr => ∃ (j g2 c2 : Nat), j ≤ rows.length ∧ i = .int .i64 j ∧ o = .slice (some ⟨g2, 0, none⟩) j c2 ∧ Hid (Own wr S (some ⟨g2, 0, none⟩) c2 (vls f j)) ∧ Hid (Own wr w.heap.size (some ⟨g, 0, none⟩) d (lst h rows.length)) ∧ Below w.heap.size w wr) (fun _ i _ => rows.length - (intOf i).toNat)
  case atStart => exact ⟨0, S, 0, Nat.zero_le _, rfl, rfl, HO2, HH2, B2⟩
  case round =>
    obtain ⟨j, g2, c2, hj, rfl, rfl, HO, HG, hb⟩ := hrel
    by_cases hlt : j < rows.length
    · have hcj : ¬ c = j := by omega
      have hdj : ¬ d = j := by omega
      have hj1 : (j : Int) + 1 ≤ (c : Int) := by omega
      have hj2 : (j : Int) + 1 ≤ (d : Int) := by omega
      have hrr : rows[j]? = some (RW rows j) := by rw [rw_of (List.getElem?_eq_getElem hlt)]; exact List.getElem?_eq_getElem hlt
      have hRj : RdR wr (some ⟨b, off + j, none⟩) (c - j) [RW rows j] := by
        have := ((hR.below hb).drop_ (c2 := c - j) j (by omega)).take_ (c2 := c - j) 1 (by simp; omega)
        rwa [rows_one hrr] at this
      have hBj : Rd wr (some ⟨g, j, none⟩) (d - j) (lst (fun _ => h j) 1) := by
        have := (HG.out.rd.drop_ (c2 := d - j) j).take_ (c2 := d - j) 1
        rw [lst_one h hlt] at this
        simpa using this
      have HW := worth_n (some ⟨b, off + j, none⟩) (some ⟨g, j, none⟩) (c - j) (d - j) 1 [RW rows j] (fun _ => h j) wr.drew rfl (hRj.drewN 1) (hBj.drewN 1) (by decide) (fun i hi => by cases (show i = 0 by omega); exact HV.out.good j hlt) (fun i hi => by cases (show i = 0 by omega); exact HFA.out.len j hlt)
      have hval : val (RW [RW rows j]) (fun _ => h j) 1 = f j := by rw [HF.out]; show 0 + pre (RW rows j) (h j) = pre (RW rows j) (h j); omega
      rw [hval] at HW
      have HW := Lib.hid HW
      obtain ⟨x, hx⟩ : ∃ x, x = f j := ⟨_, rfl⟩
      rw [← hx] at HW
      have HX := Lib.hid hx
      have hSle : Hid (S ≤ wr.heap.size) := Lib.hid (Nat.le_trans HO.out.ge (Nat.le_of_lt HO.out.lt))
      have hwj : IntKind.i64.wrap ((j : Int) + 1) = (j : Int) + 1 := IntWalk.i64_in _ (by omega)
      have h0j : (0 : Int) ≤ (j : Int) + 1 := by omega
      have hjt : ((j : Int) + 1).toNat = j + 1 := by omega
      have hjj : j + 1 - j = 1 := by omega
      clear hRj hBj hval hrr hx
      go_wp2_with fail
      go_region_law (first
        | (go_simp; go_at_call 66; refine HW.out.mono ?_; rintro e w5 ⟨rfl, n5, rfl⟩)
        | (refine step_append_ints (by rfl) _ _ (by rfl) S g2 c2 (vls f j) j (vls_len _ _) (by rfl) (by exact own_after HO.out n5 _) (some ⟨wr.heap.size, 0, none⟩) 1 [x] 1 rfl (by rfl) (by exact ints_one _ x) (by omega) (by exact Nat.le_trans hSle.out (below_after (Below.refl _ wr) (Nat.le_refl _) n5 _).size) ?_; intro g9 c8 w8 o8 g8))
      all_goals
        have B8 := Own.grownBelow0 (below_after2 hb hb.size (1 + n5) (.cells #[.int .i64 x] 3)) ((own_after2 HO.out (1 + n5) _).base hws) (below_after2 hb hb.size (1 + n5) (.cells #[.int .i64 x] 3)).size g8
        have HO8 : Hid (Own w8 S (some ⟨g9, 0, none⟩) c8 (vls f (j + 1))) := Lib.hid (by rw [vls_more, ← HX.out]; exact o8)
        have HG8 : Hid (Own w8 w.heap.size (some ⟨g, 0, none⟩) d (lst h rows.length)) := Lib.hid ((own_after2 HG.out (1 + n5) _).kept_ (A2 := some ⟨g2, 0, none⟩) g8 (.inr (fun e => by have h1 := Option.some.inj e; have h2 := HO.out.ge; simp at h1; omega)))
        clear o8 g8
        go_wp2
        go_roundw
        case rel => exact ⟨j + 1, g9, c8, by omega, by go_num, rfl, HO8, HG8, B8⟩
        case measure => simp [intOf]; omega
    · obtain rfl : j = rows.length := by omega
      go_wp2
      go_ret
      exact ⟨g2, c2, rfl, HO.out.base hws, hb⟩

end Go.Proofs.Ytkkdffmpeadinaa
