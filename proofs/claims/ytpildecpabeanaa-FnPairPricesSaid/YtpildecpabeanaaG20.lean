/-
  Chapter 4: both sides of BestSplit.
-/
import Derived.Test.YtpildecpabeanaaG19
import Derived.Test.YtpildecpabeanaaOj
namespace Go.Proofs.Ytpildecpabeanaa
open Go.RowKit

/-- What is handed back: numbers in a block of their own, and a number. -/
def PlIs (w : World) (zs : List Int) (m : Int) (e : Ending) (w' : World) : Prop :=
  ∃ A c, e = .returned (.tuple #[.slice A zs.length c, .int .i64 m]) ∧ Own w' w.heap.size A c zs ∧ Below w.heap.size w w'
open Classical in
/-- The sets of the best split, nil for others. -/
noncomputable def bsF (ts : List (List Int)) : List Int := if VTs ts then setsF (wayF ts) ts.length else []
open Classical in
/-- What they are worth, -1 for others. -/
noncomputable def bwF (ts : List (List Int)) : Int := if VTs ts then worthF ts (wayF ts) else -1
theorem BsIs.pl {w : World} {ts : List (List Int)} {e : Ending} {w' : World} (h : BsIs w ts e w') : PlIs w (bsF ts) (bwF ts) e w' := by
  obtain ⟨A, c, xs, m, rfl, ho, hb, h | h⟩ := h
  · obtain ⟨h1, rfl, rfl⟩ := h
    unfold bsF bwF
    rw [if_pos h1, if_pos h1]
    exact ⟨A, c, rfl, ho, hb⟩
  · obtain ⟨h1, rfl, rfl⟩ := h
    unfold bsF bwF
    rw [if_neg h1, if_neg h1]
    exact ⟨A, c, rfl, ho, hb⟩
theorem bsF_len (ts : List (List Int)) : (bsF ts).length ≤ 1000 := by
  unfold bsF
  split
  · rename_i h
    rw [setsF_len']; have := h.1.2; omega
  · simp
end Go.Proofs.Ytpildecpabeanaa

/-
  Chapter 8: BestPairs of the model and of the program.
-/
namespace Go.Proofs.Ytpildecpabeanaa
open Go.RowKit

open Classical in
/-- Who has what, nil for others, and the sum. -/
noncomputable def bpL (rows : List (List Int)) : List Int := if VR rows then nl (pb rows 0).2 else []
open Classical in
noncomputable def bpS (rows : List (List Int)) : Int := if VR rows then (pb rows 0).1 else -1
theorem bp_yes {rows : List (List Int)} (h : VR rows) : bpL rows = nl (pb rows 0).2 ∧ bpS rows = (pb rows 0).1 := by simp [bpL, bpS, h]
theorem bp_no {rows : List (List Int)} (h : ¬ VR rows) : bpL rows = [] ∧ bpS rows = -1 := by simp [bpL, bpS, h]

theorem row_set {w : World} {B T sz n : Nat} {v : Value} {xs : List Value} (h : w.ownsRow B T sz v n xs) {p : Addr} (u : Value) (hne : v.ownBlock ≠ some p.block) : (w.setCell p u).ownsRow B T sz v n xs := by
  refine ⟨h.1, ?_⟩
  rcases h.2 with h2 | ⟨g, cap, cur, hv, hg, hh, r⟩
  · exact .inl h2
  · refine .inr ⟨g, cap, cur, hv, hg, (Below.heap_setCell _ _ _ _ (fun e => hne ?_)).trans hh, r⟩
    rw [hv, e]; rfl
theorem prs_len : ∀ (rows : List (List Int)) (js : List Nat), js.length = rows.length → (prs rows js).length = rows.length := by
  intro rows
  induction rows with
  | nil => intro js _; rfl
  | cons r rs ih =>
    intro js hj
    cases js with
    | nil => simp at hj
    | cons j js => simp only [prs, List.length_cons]; rw [ih js (by simpa using hj)]
theorem prs_at : ∀ (rows : List (List Int)) (js : List Nat) (i : Nat) (t : Int × Int), (prs rows js)[i]? = some t → (nl js)[i]? = some t.1 ∧ t.2 = (rows.getD i []).getD (js.getD i 0) 0 := by
  intro rows
  induction rows with
  | nil => intro js i t h; simp [prs] at h
  | cons r rs ih =>
    intro js i t h
    cases js with
    | nil => simp [prs] at h
    | cons j js =>
      cases i with
      | zero =>
        simp only [prs, List.getElem?_cons_zero, Option.some.injEq] at h
        subst h
        simp [nl]
      | succ i =>
        simp only [prs, List.getElem?_cons_succ] at h
        have := ih js i t h
        simpa [nl] using this

set_option maxRecDepth 100000 in
set_option maxHeartbeats 2000000 in
theorem BestPairs_any (A : Option Addr) (c : Nat) (rows : List (List Int)) (w : World) (h : RdR w A c rows) (hl : rows.length ≤ 1099511627776) (hl2 : ∀ r ∈ rows, r.length ≤ 1099511627776) :
    Calls Try.prog 42 #[.slice A rows.length c] w (PlIs w (bpL rows) (bpS rows)) := by
  have HV := Lib.hid (ValidRows_any A c rows w h hl hl2)
  by_cases hv : VR rows
  · obtain ⟨hk, h12, hm1, hm4⟩ := hv.rk
    have hpl := pb_len hk 0
    obtain ⟨e1, e2⟩ := bp_yes hv
    rw [vr_true hv] at HV
    have HF := Lib.hid (fun w1 (b : Below w.heap.size w w1) => bestFrom_any _ hm4 hm1 rows hk h12 hv.1.2 A c 0 w1 (Nat.two_pow_pos _) (h.below b))
    have HTL := Lib.hid (prs_len rows _ hpl)
    have HTB := Lib.hid (prs_bd (fun r hr j => ⟨(hk r hr).2 j, h12 r hr j⟩) (pb rows 0).2)
    have HTA := Lib.hid (prs_at rows (pb rows 0).2)
    have HSM : Hid (smP (prs rows (pb rows 0).2) = (pb rows 0).1) := Lib.hid (by rw [smP_prs]; exact (pb_mt hk 0).2)
    have E1 := Lib.hid e1
    have E2 := Lib.hid e2
    have hn4 := hv.1
    have HPL : Hid ((nl (pb rows 0).2).length = rows.length) := Lib.hid (by rw [nl_len]; exact hpl)
    clear hv hk h12 e1 e2 hm1 hm4 hpl h
    generalize prs rows (pb rows 0).2 = ts at *
    generalize nl (pb rows 0).2 = zs at *
    generalize hnn : rows.length = n at *
    go_enter Try.func42, Try.ntmps42
    go_wp2_with fail
    refine HV.out.mono ?_
    rintro e w1 ⟨rfl, b1⟩
    go_wp2_with fail
    refine (HF.out w1 b1).mono ?_
    rintro e w2 ⟨v2, rfl, hp2, b2⟩
    have HB2 := Lib.hid (b1.trans (b2.mono b1.size))
    have HP2 := Lib.hid hp2
    obtain ⟨ao, rfl⟩ := pls_ptr hp2
    clear b1 b2 hp2 HF HV
    go_wp2_with (at_make; refine wpList_make_ints rfl _ _ rfl w2.heap.size n rfl rfl (by omega) (Nat.le_refl _) ?_; intro w3 ho3 hb3)
    refine (listed_any w2 ts (.pointer ao) w3 HP2.out hb3 (by rw [HTL.out]; omega)).mono ?_
    rintro e w4 ⟨v4, vs, rfl, hr4, hpv, b4⟩
    obtain ⟨A4, c4, rfl⟩ := row_shape hr4
    rw [HTL.out] at hr4 hpv
    rw [HTL.out]
    have hq : ∃ q, A4 = some ⟨q, 0, none⟩ ∧ w3.heap.size ≤ q := by
      rcases hr4.2 with ⟨hv, h0⟩ | ⟨g, cap, cur, hv, hg, _⟩
      · omega
      · injection hv with h1 h2 h3
        exact ⟨g, h1, hg⟩
    obtain ⟨q, rfl, hq3⟩ := hq
    have hzl : zs.length = n := HPL.out
    have hg3 : w2.heap.size < w3.heap.size := ho3.lt
    have HR4 := Lib.hid hr4
    have HPV := Lib.hid hpv
    have HO4 : Hid (Own w4 w2.heap.size (some ⟨w2.heap.size, 0, none⟩) n (filled zs 0)) := Lib.hid (by rw [filled_zero, hzl]; exact ho3.below b4)
    have HB4 : Hid (Below w2.heap.size w2 w4) := Lib.hid (hb3.trans (b4.mono hb3.size))
    clear hr4 hpv b4 hb3 ho3
    go_wp2_with fail
    go_loopw [19] (fun i wr => ∃ k : Nat, k ≤ n ∧ i = .int .i64 k ∧ Hid (Own wr w2.heap.size (some ⟨w2.heap.size, 0, none⟩) n (filled zs k)) ∧ Hid (wr.ownsRow w3.heap.size 88 1 (.slice (some ⟨q, 0, none⟩) n c4) n vs) ∧ Hid (Below w2.heap.size w2 wr)) (fun i _ => n - (intOf i).toNat)
    case atStart => exact ⟨0, Nat.zero_le _, rfl, HO4, HR4, HB4⟩
    case round =>
      obtain ⟨k, hk, rfl, HO, HR, HB⟩ := hrel
      by_cases hlt : k < n
      · have ht : ts[k]? = some (ts[k]'(by rw [HTL.out]; exact hlt)) := List.getElem?_eq_getElem _
        generalize ts[k]'(by rw [HTL.out]; exact hlt) = t at ht
        obtain ⟨b, hb0, hb1, _⟩ := HPV.out.2 k t hlt ht
        have hce := World.ownsRow.cellAt HR.out k (by omega)
        rw [hb0] at hce
        have hcb := (HB.out.cell (p := ⟨b, 0, none⟩) (World.block_lt_of_cell? w2 _ hb1)).trans hb1
        have hx := (HTA.out k t ht).1
        have hcg : ∃ y, wr.cell? ⟨w2.heap.size, k, none⟩ = some (.int .i64 y) := by
          have hy : (filled zs k)[k]? = some ((filled zs k)[k]'(by rw [filled_len zs k (by omega)]; omega)) := List.getElem?_eq_getElem _
          exact ⟨_, HO.out.cell hy⟩
        obtain ⟨y, hcg⟩ := hcg
        have hfr := HO.out.free k
        have HO' : Hid (Own (wr.setCell ⟨w2.heap.size, k, none⟩ (.int .i64 t.1)) w2.heap.size (some ⟨w2.heap.size, 0, none⟩) n (filled zs (k + 1))) := Lib.hid (by have := HO.out.set_ k t.1; rwa [filled_set zs k _ hx] at this)
        have HR' : Hid ((wr.setCell ⟨w2.heap.size, k, none⟩ (.int .i64 t.1)).ownsRow w3.heap.size 88 1 (.slice (some ⟨q, 0, none⟩) n c4) n vs) := Lib.hid (row_set HR.out _ (by intro e; injection e with e; simp only at e; omega))
        have HB' := Lib.hid (HB.out.setCell (p := ⟨w2.heap.size, k, none⟩) (Nat.le_refl _) (.int .i64 t.1))
        clear hx ht hb0 hb1
        go_wp2
        go_roundw
        case rel => exact ⟨k + 1, hlt, by go_num, HO', HR', HB'⟩
        case measure => simp [intOf]; omega
      · obtain rfl : k = n := by omega
        have HSU : Hid (Calls Try.prog 101 #[.pointer ao] wr fun e w' => e = .returned (.int .i64 (pb rows 0).1) ∧ ∃ p, w' = wr.drewN p) := Lib.hid (by have := sum_any ts (.pointer ao) wr (HP2.out.below HB.out) (by rw [HTL.out]; omega) HTB.out.2; rwa [HSM.out] at this)
        go_wp2_with fail
        refine HSU.out.mono ?_
        rintro e w6 ⟨rfl, m, rfl⟩
        go_wp2
        go_ret2
        rw [E1.out, E2.out]
        have HO6 := HO.out.drewN m
        rw [← hzl, filled_all] at HO6
        refine ⟨some ⟨w2.heap.size, 0, none⟩, zs.length, by rw [hzl]; rfl, HO6.base HB2.out.size, below_drewN' (HB2.out.trans (HB.out.mono HB2.out.size)) m⟩
  · rw [vr_false hv] at HV
    obtain ⟨e1, e2⟩ := bp_no hv
    go_enter Try.func42, Try.ntmps42
    go_wp2_with fail
    refine HV.out.mono ?_
    rintro e w1 ⟨rfl, b1⟩
    go_wp2
    go_ret2
    rw [e1, e2]
    exact ⟨none, 0, rfl, own_none _ _, b1⟩

theorem bpL_len (rows : List (List Int)) : (bpL rows).length ≤ 1000 := by
  by_cases h : VR rows
  · rw [(bp_yes h).1, nl_len, pb_len h.rk.1 0]; have := h.1.2; omega
  · rw [(bp_no h).1]; simp
end Go.Proofs.Ytpildecpabeanaa
