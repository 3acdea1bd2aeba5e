/-
  Chapter 4, the program: the contracts of areTables, joinedOf and SplitWorth.
-/
import Derived.Test.YtpildecpabeanaaWi
import Derived.Test.YtpildecpabeanaaG03
import Derived.StillTailTactics
namespace Go.Proofs.Ytpildecpabeanaa
open Go.RowKit

/-- Tables of bidders. -/
def VTs (ts : List (List Int)) : Prop := (1 ≤ ts.length ∧ ts.length ≤ 4) ∧ ∀ t ∈ ts, VT t
noncomputable def vtsB (ts : List (List Int)) : Bool := @decide (VTs ts) (Classical.propDecidable _)
theorem vtsB_true {ts : List (List Int)} (h : VTs ts) : vtsB ts = true := by unfold vtsB; simp [h]
theorem vtsB_false {ts : List (List Int)} (h : ¬ VTs ts) : vtsB ts = false := by unfold vtsB; simp [h]
theorem vtsB_iff {ts : List (List Int)} : vtsB ts = true ↔ VTs ts := by unfold vtsB; simp
theorem vts_no {ts : List (List Int)} {k : Nat} {t : List Int} (ht : ts[k]? = some t) (h : vt t = false) : vtsB ts = false :=
  vtsB_false (fun ho => by have := vt_true (ho.2 t (List.mem_of_getElem? ht)); rw [h] at this; cases this)
theorem vts_len {ts : List (List Int)} (h : ¬ (1 ≤ ts.length ∧ ts.length ≤ 4)) : vtsB ts = false := vtsB_false (fun ho => h ho.1)
/-- Of the first k each is a table. -/
def tabsTo (ts : List (List Int)) (k : Nat) : Prop := ∀ (j : Nat) (t : List Int), j < k → ts[j]? = some t → vt t = true
theorem tabsTo_step {ts : List (List Int)} {k : Nat} {t : List Int} (h : tabsTo ts k) (ht : ts[k]? = some t) (hb : vt t = true) : tabsTo ts (k + 1) := by
  intro j z hj hz
  rcases Nat.lt_or_ge j k with hjk | hjk
  · exact h j z hjk hz
  · obtain rfl : j = k := by omega
    rw [ht] at hz; cases hz
    exact hb
theorem tabsTo_zero (ts : List (List Int)) : tabsTo ts 0 := fun j r hj => absurd hj (by omega)
theorem tabsTo_all {ts : List (List Int)} (h : tabsTo ts ts.length) (hl : 1 ≤ ts.length ∧ ts.length ≤ 4) : vtsB ts = true :=
  vtsB_true ⟨hl, fun r hr => by
    obtain ⟨k, hk, rfl⟩ := List.getElem_of_mem hr
    exact vt_iff.1 (h k _ hk (List.getElem?_eq_getElem hk))⟩

set_option maxHeartbeats 400000 in
theorem areTabs_any (A : Option Addr) (c : Nat) (ts : List (List Int)) (w : World) (h : RdR w A c ts) (hl2 : ∀ r ∈ ts, r.length ≤ 1099511627776) :
    Calls Try.prog 132 #[.slice A ts.length c, .int .i64 4, .func (.func 133) #[] #[]] w fun e w' => e = .returned (.bool (vtsB ts)) ∧ Below w.heap.size w w' := by
  by_cases h1 : ts.length < 1
  · have HE := Lib.hid (vts_len (ts := ts) (by omega))
    go_enter Try.func132, Try.ntmps132
    go_wp2
    go_ret
    exact ⟨by rw [HE.out]; rfl, Below.refl _ _⟩
  by_cases h4 : 4 < ts.length
  · have HE := Lib.hid (vts_len (ts := ts) (by omega))
    go_enter Try.func132, Try.ntmps132
    go_wp2
    go_ret
    exact ⟨by rw [HE.out]; rfl, Below.refl _ _⟩
  have h1' : 1 ≤ ts.length := by omega
  have h4' : ts.length ≤ 4 := by omega
  clear h1 h4
  go_enter Try.func132, Try.ntmps132
  go_wp2
  go_loopw [20] (fun i wr => ∃ k : Nat, k ≤ ts.length ∧ i = .int .i64 k ∧ Below w.heap.size w wr ∧ Hid (tabsTo ts k)) (fun i _ => ts.length - (intOf i).toNat)
  case atStart => exact ⟨0, Nat.zero_le _, rfl, Below.refl _ _, Lib.hid (tabsTo_zero ts)⟩
  case round =>
    obtain ⟨k, hk, rfl, hb, HT⟩ := hrel
    by_cases hlt : k < ts.length
    · obtain ⟨b, off, r, A', c', rfl, hr, hc, hcap, hrd⟩ := (h.below hb).at_ hlt
      have hrl : r.length ≤ 1099511627776 := hl2 r (List.mem_of_getElem? hr.out)
      have HC := Lib.hid (ValidTable_any A' c' r wr hrd.out hrl)
      rcases hbv : vt r with _ | _
      · have HE := Lib.hid (vts_no hr.out hbv)
        rw [hbv] at HC
        clear hbv hr hrd hrl
        go_wp2_with (go_at_call 133; refine HC.out.mono ?_; rintro e w1 ⟨rfl, hb1⟩)
        go_ret
        exact ⟨by rw [HE.out]; rfl, below_then hb hb1⟩
      · have HT' := Lib.hid (tabsTo_step HT.out hr.out hbv)
        rw [hbv] at HC
        clear hbv hr hrd hrl
        go_wp2_with (go_at_call 133; refine HC.out.mono ?_; rintro e w1 ⟨rfl, hb1⟩)
        go_roundw
        case rel => exact ⟨k + 1, by omega, by go_num, below_then hb hb1, HT'⟩
        case measure => simp [intOf]; omega
    · obtain rfl : k = ts.length := by omega
      have HE := Lib.hid (tabsTo_all HT.out ⟨h1', h4'⟩)
      go_wp2
      go_ret
      exact ⟨by rw [HE.out]; rfl, hb⟩

theorem areTables_any (A : Option Addr) (c : Nat) (ts : List (List Int)) (w : World) (h : RdR w A c ts) (hl2 : ∀ r ∈ ts, r.length ≤ 1099511627776) :
    Calls Try.prog 77 #[.slice A ts.length c] w fun e w' => e = .returned (.bool (vtsB ts)) ∧ Below w.heap.size w w' := by
  have HC := Lib.hid (areTabs_any A c ts w h hl2)
  go_enter Try.func77, Try.ntmps77
  go_wp2_with (go_at_call 132; refine HC.out.mono ?_; rintro e w1 ⟨rfl, hb⟩)
  go_ret
  exact ⟨rfl, hb⟩

theorem set8 {L : List Int} (h : L.length = 8) (a b c d e f g i : Int) : (((((((L.set 0 a).set 1 b).set 2 c).set 3 d).set 4 e).set 5 f).set 6 g).set 7 i = [a, b, c, d, e, f, g, i] := by
  match L, h with
  | [_, _, _, _, _, _, _, _], _ => rfl
theorem Rd.eight {w : World} {b off c : Nat} {t : List Int} (h : Rd w (some ⟨b, off, none⟩) c t) (hl : t.length = 8) : w.cell? ⟨b, off, none⟩ = some (.int .i64 (T t 0)) ∧ w.cell? ⟨b, off + 1, none⟩ = some (.int .i64 (T t 1)) ∧ w.cell? ⟨b, off + 2, none⟩ = some (.int .i64 (T t 2)) ∧ w.cell? ⟨b, off + 3, none⟩ = some (.int .i64 (T t 3)) ∧
    w.cell? ⟨b, off + 4, none⟩ = some (.int .i64 (T t 4)) ∧ w.cell? ⟨b, off + 5, none⟩ = some (.int .i64 (T t 5)) ∧ w.cell? ⟨b, off + 6, none⟩ = some (.int .i64 (T t 6)) ∧ w.cell? ⟨b, off + 7, none⟩ = some (.int .i64 (T t 7)) := by
  have : ∀ k, k < 8 → w.cell? ⟨b, off + k, none⟩ = some (.int .i64 (T t k)) := fun k hk => by
    obtain ⟨b', off', x, hA, _, hx, hc⟩ := h.at_ (k := k) (by omega)
    cases hA
    rw [hc, T_of hx.out]
  exact ⟨this 0 (by omega), this 1 (by omega), this 2 (by omega), this 3 (by omega), this 4 (by omega), this 5 (by omega), this 6 (by omega), this 7 (by omega)⟩
theorem Rd.some_ {w : World} {A : Option Addr} {c : Nat} {t : List Int} (h : Rd w A c t) (hl : t.length = 8) : ∃ b off, A = some ⟨b, off, none⟩ := by
  obtain ⟨b, off, _, hA, _⟩ := h.at_ (k := 0) (by omega)
  exact ⟨b, off, hA⟩

theorem arr_ptr (b off c : Nat) (w : World) : (Instr.arrayAt 96 (.slice (some ⟨b, off, none⟩) 8 c)).run Try.prog w = .ok (.pointer (some ⟨b, off, none⟩)) w := by kernel_rfl

/-- Where joinedOf stands. -/
def JnAt (w wr : World) (ts : List (List Int)) (k : Nat) : Prop := Below w.heap.size w wr ∧ Arr wr w.heap.size (List.replicate 8 0) ∧ Arr wr (w.heap.size + 1) (jnAll (ts.take k))

theorem below_al3 {w wr : World} {k : Nat} {v : Value} (h : Below w.heap.size w wr) : Below w.heap.size w (wr.setCell ⟨w.heap.size + 1, k, none⟩ v) := h.setCell (by show w.heap.size ≤ w.heap.size + 1; omega) _
theorem below_al4 {w wr : World} {k : Nat} {v : Value} (h : Below w.heap.size w wr) : Below w.heap.size w (wr.setCell ⟨w.heap.size, k, none⟩ v) := h.setCell (Nat.le_refl _) _

set_option maxRecDepth 100000 in
set_option maxHeartbeats 1600000 in
theorem joinedOf_gen (A : Option Addr) (c : Nat) (ts : List (List Int)) (w : World) (h : RdR w A c ts) (h4 : ts.length ≤ 4) (hv : ∀ t ∈ ts, VT t) :
    Calls Try.prog 102 #[.slice A ts.length c] w fun e w' => e = .returned (ag8 (T (jnAll ts))) ∧ Below w.heap.size w w' := by
  have HVT := Lib.hid (fun (t : List Int) (ht : t ∈ ts) => hv t ht)
  have HBD := Lib.hid (fun (k : Nat) => jnAll_bd (ts := ts.take k) (fun t ht => hv t (List.mem_of_mem_take ht)))
  obtain ⟨l, hl⟩ : ∃ l, l = jnAll ts := ⟨_, rfl⟩
  have HL := Lib.hid hl
  rw [← hl]
  clear hl hv
  have HS : Hid (JnAt w ((w.alloc (.cells #[.int .i64 0, .int .i64 0, .int .i64 0, .int .i64 0, .int .i64 0, .int .i64 0, .int .i64 0, .int .i64 0] 96)).alloc (.cells #[.int .i64 0, .int .i64 0, .int .i64 0, .int .i64 0, .int .i64 0, .int .i64 0, .int .i64 0, .int .i64 0] 96)) ts 0) := by
    refine Lib.hid ⟨((Below.refl _ w).alloc (Nat.le_refl _) _).alloc (by simp) _, (Arr.new w (List.replicate 8 0) rfl).alloc _, ?_⟩
    have h1 := Arr.new (w.alloc (.cells #[.int .i64 0, .int .i64 0, .int .i64 0, .int .i64 0, .int .i64 0, .int .i64 0, .int .i64 0, .int .i64 0] 96)) (List.replicate 8 0) rfl
    simp only [show ∀ (w : World) (o : Obj), (w.alloc o).heap.size = w.heap.size + 1 from fun w o => by simp] at h1
    rw [jnAll_zero]
    exact h1
  unfold ag8
  go_enter Try.func102, Try.ntmps102
  go_wp2
  go_loopw [8] (fun i wr => ∃ k : Nat, k ≤ ts.length ∧ i = .int .i64 (k : Int) ∧ Hid (JnAt w wr ts k)) (fun i _ => ts.length - (intOf i).toNat)
  case atStart => exact ⟨0, by omega, rfl, HS⟩
  case round =>
    obtain ⟨k, hk, rfl, HA⟩ := hrel
    clear HS
    by_cases hlt : k < ts.length
    · obtain ⟨b, off, r, A', c', rfl, hr, hc, hcap, hrd⟩ := (h.below HA.out.1).at_ hlt
      have hvt := HVT.out r (List.mem_of_getElem? hr.out)
      obtain ⟨b', off', rfl⟩ := hrd.out.some_ hvt.1
      obtain ⟨c0, c1, c2, c3, c4, c5, c6, c7⟩ := hrd.out.eight hvt.1
      rw [hvt.1] at hc
      have hbd := HBD.out k
      have hl4 : ((ts.take k).length : Int) ≤ 4 := by rw [List.length_take]; omega
      have HT := Lib.hid (fun (w1 : World) => together_any (T (jnAll (ts.take k))) (T r) (30 * ((ts.take k).length : Int)) 30 (fun s hs => hbd.2 s hs) (fun s hs => hvt.bd hs) (by omega) w1)
      have HST := Lib.hid (jnAll_step hr.out)
      obtain ⟨d0, d1, d2, d3, d4, d5, d6, d7⟩ := HA.out.2.2.all
      have hbl := HA.out.1
      have hA0 := HA.out.2.1
      have hA1 := HA.out.2.2
      have HLT := Lib.hid hA1.lt
      obtain ⟨m, hm⟩ : ∃ m, m = jnAll (ts.take k) := ⟨_, rfl⟩
      rw [← hm] at HT HST d0 d1 d2 d3 d4 d5 d6 d7 hA1
      obtain ⟨g, hg⟩ : ∃ g, g = tg (T m) (T r) := ⟨_, rfl⟩
      rw [← hg] at HT HST
      have hgl : g.length = 8 := by rw [hg]; exact tg_len _ _
      have HGL := Lib.hid hgl
      clear hm hg hgl hbd hl4 hvt hr hrd HA hcap
      have HA0 := Lib.hid hA0
      have HA1 := Lib.hid hA1
      clear hA0 hA1
      have hap := arr_ptr b' off' c'
      go_wp2_with fail
      go_still_tail 4, (by kernel_rfl)
      change wpList _ _ _ _ _ wr.drew
      go_wp2_with (go_at_call 149; refine (HT.out _).mono ?_; rintro e w1 ⟨rfl, hb1⟩; unfold ag8; have hA2 := HA1.out.keep (hb1.block _ HLT.out); obtain ⟨e0, e1, e2, e3, e4, e5, e6, e7⟩ := hA2.all; have f0 := hA2.free 0; have f1 := hA2.free 1; have f2 := hA2.free 2; have f3 := hA2.free 3; have f4 := hA2.free 4; have f5 := hA2.free 5; have f6 := hA2.free 6; have f7 := hA2.free 7)
      go_roundw
      case rel =>
        refine ⟨k + 1, by omega, by go_num, Lib.hid ⟨?_, ?_, ?_⟩⟩
        · exact below_al3 (below_al3 (below_al3 (below_al3 (below_al3 (below_al3 (below_al3 (below_al3 ((below_then hbl.drew hb1)))))))))
        · exact Arr.other (Arr.other (Arr.other (Arr.other (Arr.other (Arr.other (Arr.other (Arr.other ((HA0.out.keep (hb1.block _ (by have := HLT.out; show w.heap.size < wr.heap.size; omega)))) (by omega)) (by omega)) (by omega)) (by omega)) (by omega)) (by omega)) (by omega)) (by omega)
        · have h9 := (((((((hA2.set_ (k := 0) (T g 0)).set_ (k := 1) (T g 1)).set_ (k := 2) (T g 2)).set_ (k := 3) (T g 3)).set_ (k := 4) (T g 4)).set_ (k := 5) (T g 5)).set_ (k := 6) (T g 6)).set_ (k := 7) (T g 7)
          rw [set8 hA2.1, show [T g 0, T g 1, T g 2, T g 3, T g 4, T g 5, T g 6, T g 7] = g from lit8_T HGL.out] at h9
          rw [HST.out]
          exact h9
      case measure => simp [intOf]; omega
    · obtain rfl : k = ts.length := by omega
      obtain ⟨hb, hr, hbo⟩ := HA.out
      rw [List.take_length, ← HL.out] at hbo
      obtain ⟨c0, c1, c2, c3, c4, c5, c6, c7⟩ := hbo.all
      have f0 := hr.free 0
      have f1 := hr.free 1
      have f2 := hr.free 2
      have f3 := hr.free 3
      have f4 := hr.free 4
      have f5 := hr.free 5
      have f6 := hr.free 6
      have f7 := hr.free 7
      obtain ⟨r0, r1, r2, r3, r4, r5, r6, r7⟩ := hr.all
      have a0 := hr.set_ (k := 0) (T l 0)
      have s0 : (wr.setCell ⟨w.heap.size, 0, none⟩ (.int .i64 (T l 0))).cell? ⟨w.heap.size, 0, none⟩ = some (.int .i64 (T l 0)) := hr.got (by omega) _
      have a1 := a0.set_ (k := 1) (T l 1)
      have s1 : ((wr.setCell ⟨w.heap.size, 0, none⟩ (.int .i64 (T l 0))).setCell ⟨w.heap.size, 1, none⟩ (.int .i64 (T l 1))).cell? ⟨w.heap.size, 1, none⟩ = some (.int .i64 (T l 1)) := a0.got (by omega) _
      have a2 := a1.set_ (k := 2) (T l 2)
      have s2 : (((wr.setCell ⟨w.heap.size, 0, none⟩ (.int .i64 (T l 0))).setCell ⟨w.heap.size, 1, none⟩ (.int .i64 (T l 1))).setCell ⟨w.heap.size, 2, none⟩ (.int .i64 (T l 2))).cell? ⟨w.heap.size, 2, none⟩ = some (.int .i64 (T l 2)) := a1.got (by omega) _
      have a3 := a2.set_ (k := 3) (T l 3)
      have s3 : ((((wr.setCell ⟨w.heap.size, 0, none⟩ (.int .i64 (T l 0))).setCell ⟨w.heap.size, 1, none⟩ (.int .i64 (T l 1))).setCell ⟨w.heap.size, 2, none⟩ (.int .i64 (T l 2))).setCell ⟨w.heap.size, 3, none⟩ (.int .i64 (T l 3))).cell? ⟨w.heap.size, 3, none⟩ = some (.int .i64 (T l 3)) := a2.got (by omega) _
      have a4 := a3.set_ (k := 4) (T l 4)
      have s4 : (((((wr.setCell ⟨w.heap.size, 0, none⟩ (.int .i64 (T l 0))).setCell ⟨w.heap.size, 1, none⟩ (.int .i64 (T l 1))).setCell ⟨w.heap.size, 2, none⟩ (.int .i64 (T l 2))).setCell ⟨w.heap.size, 3, none⟩ (.int .i64 (T l 3))).setCell ⟨w.heap.size, 4, none⟩ (.int .i64 (T l 4))).cell? ⟨w.heap.size, 4, none⟩ = some (.int .i64 (T l 4)) := a3.got (by omega) _
      have a5 := a4.set_ (k := 5) (T l 5)
      have s5 : ((((((wr.setCell ⟨w.heap.size, 0, none⟩ (.int .i64 (T l 0))).setCell ⟨w.heap.size, 1, none⟩ (.int .i64 (T l 1))).setCell ⟨w.heap.size, 2, none⟩ (.int .i64 (T l 2))).setCell ⟨w.heap.size, 3, none⟩ (.int .i64 (T l 3))).setCell ⟨w.heap.size, 4, none⟩ (.int .i64 (T l 4))).setCell ⟨w.heap.size, 5, none⟩ (.int .i64 (T l 5))).cell? ⟨w.heap.size, 5, none⟩ = some (.int .i64 (T l 5)) := a4.got (by omega) _
      have a6 := a5.set_ (k := 6) (T l 6)
      have s6 : (((((((wr.setCell ⟨w.heap.size, 0, none⟩ (.int .i64 (T l 0))).setCell ⟨w.heap.size, 1, none⟩ (.int .i64 (T l 1))).setCell ⟨w.heap.size, 2, none⟩ (.int .i64 (T l 2))).setCell ⟨w.heap.size, 3, none⟩ (.int .i64 (T l 3))).setCell ⟨w.heap.size, 4, none⟩ (.int .i64 (T l 4))).setCell ⟨w.heap.size, 5, none⟩ (.int .i64 (T l 5))).setCell ⟨w.heap.size, 6, none⟩ (.int .i64 (T l 6))).cell? ⟨w.heap.size, 6, none⟩ = some (.int .i64 (T l 6)) := a5.got (by omega) _
      have a7 := a6.set_ (k := 7) (T l 7)
      have s7 : ((((((((wr.setCell ⟨w.heap.size, 0, none⟩ (.int .i64 (T l 0))).setCell ⟨w.heap.size, 1, none⟩ (.int .i64 (T l 1))).setCell ⟨w.heap.size, 2, none⟩ (.int .i64 (T l 2))).setCell ⟨w.heap.size, 3, none⟩ (.int .i64 (T l 3))).setCell ⟨w.heap.size, 4, none⟩ (.int .i64 (T l 4))).setCell ⟨w.heap.size, 5, none⟩ (.int .i64 (T l 5))).setCell ⟨w.heap.size, 6, none⟩ (.int .i64 (T l 6))).setCell ⟨w.heap.size, 7, none⟩ (.int .i64 (T l 7))).cell? ⟨w.heap.size, 7, none⟩ = some (.int .i64 (T l 7)) := a6.got (by omega) _
      have HB : Hid (Below w.heap.size w ((((((((wr.setCell ⟨w.heap.size, 0, none⟩ (.int .i64 (T l 0))).setCell ⟨w.heap.size, 1, none⟩ (.int .i64 (T l 1))).setCell ⟨w.heap.size, 2, none⟩ (.int .i64 (T l 2))).setCell ⟨w.heap.size, 3, none⟩ (.int .i64 (T l 3))).setCell ⟨w.heap.size, 4, none⟩ (.int .i64 (T l 4))).setCell ⟨w.heap.size, 5, none⟩ (.int .i64 (T l 5))).setCell ⟨w.heap.size, 6, none⟩ (.int .i64 (T l 6))).setCell ⟨w.heap.size, 7, none⟩ (.int .i64 (T l 7)))) := Lib.hid (below_al4 (below_al4 (below_al4 (below_al4 (below_al4 (below_al4 (below_al4 (below_al4 (hb)))))))))
      clear a0 a1 a2 a3 a4 a5 a6 a7 hr hbo
      go_wp2
      refine bodyPost_ret (by simp [results, Try.results102, go_sem, s0, s1, s2, s3, s4, s5, s6, s7]; try rfl) rfl ?_
      exact ⟨rfl, HB.out⟩
theorem joinedOf_any (A : Option Addr) (c : Nat) (ts : List (List Int)) (w : World) (h : RdR w A c ts) (hv : VTs ts) :
    Calls Try.prog 102 #[.slice A ts.length c] w fun e w' => e = .returned (ag8 (T (jnAll ts))) ∧ Below w.heap.size w w' := joinedOf_gen A c ts w h hv.1.2 hv.2

/-- What the program's SplitWorth tells. -/
noncomputable def spF (ts : List (List Int)) (x : Int) : Int := if vtsB ts = true ∧ 0 ≤ x ∧ x ≤ 7 then sv ts x.toNat else -1

set_option maxHeartbeats 800000 in
theorem SplitWorth_any (A : Option Addr) (c : Nat) (ts : List (List Int)) (x : Int) (w : World) (h : RdR w A c ts) (hl2 : ∀ r ∈ ts, r.length ≤ 1099511627776) :
    Calls Try.prog 44 #[.slice A ts.length c, .int .i64 x] w fun e w' => e = .returned (.int .i64 (spF ts x)) ∧ Below w.heap.size w w' := by
  have HC := Lib.hid (areTables_any A c ts w h hl2)
  rcases hb : vtsB ts with _ | _
  · have HE : Hid (spF ts x = -1) := Lib.hid (by unfold spF; rw [hb]; simp)
    rw [hb] at HC
    clear hb
    go_enter Try.func44, Try.ntmps44
    go_wp2_with (go_at_call 77; refine HC.out.mono ?_; rintro e w1 ⟨rfl, hb⟩)
    go_ret
    exact ⟨by rw [HE.out]; rfl, hb⟩
  · rw [hb] at HC
    have hv := vtsB_iff.1 hb
    by_cases hx : 0 ≤ x ∧ x ≤ 7
    · obtain ⟨s, rfl⟩ : ∃ s : Nat, x = (s : Int) := ⟨x.toNat, by omega⟩
      have hs8 : s < 8 := by omega
      have HE : Hid (spF ts (s : Int) = T (jnAll ts) s) := Lib.hid (by unfold spF; rw [if_pos ⟨hb, hx⟩, jnAll_at (fun t ht => (hv.2 t ht).2.1) hs8]; rfl)
      have HJ := Lib.hid (fun (w1 : World) (h1 : RdR w1 A c ts) => joinedOf_any A c ts w1 h1 hv)
      obtain ⟨l, hl⟩ : ∃ l, l = jnAll ts := ⟨_, rfl⟩
      rw [← hl] at HE HJ
      have hi := idx8 (T l) hs8
      have h0 : (0 : Int) ≤ (s : Int) := by omega
      have h7 : (s : Int) ≤ 7 := by omega
      have h8 : (s : Int) < 8 := by omega
      clear hl hb hv hx
      go_enter Try.func44, Try.ntmps44
      go_wp2_with (first
        | (go_at_call 77; refine HC.out.mono ?_; rintro e w1 ⟨rfl, hb⟩)
        | (go_at_call 102; refine (HJ.out _ (h.below hb)).mono ?_; rintro e w2 ⟨rfl, hb2⟩; unfold ag8))
      go_ret
      exact ⟨by rw [HE.out]; rfl, below_then hb hb2⟩
    · have HE : Hid (spF ts x = -1) := Lib.hid (by unfold spF; rw [if_neg (fun h => hx h.2)])
      clear hb hv
      by_cases h0 : x < 0
      · clear hx
        go_enter Try.func44, Try.ntmps44
        go_wp2_with (go_at_call 77; refine HC.out.mono ?_; rintro e w1 ⟨rfl, hb⟩)
        go_ret
        exact ⟨by rw [HE.out]; rfl, hb⟩
      · have h7 : 7 < x := by omega
        clear hx
        go_enter Try.func44, Try.ntmps44
        go_wp2_with (go_at_call 77; refine HC.out.mono ?_; rintro e w1 ⟨rfl, hb⟩)
        go_ret
        exact ⟨by rw [HE.out]; rfl, hb⟩

end Go.Proofs.Ytpildecpabeanaa
