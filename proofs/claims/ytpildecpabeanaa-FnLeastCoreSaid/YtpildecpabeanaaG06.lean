/-
  Chapter 4, the program: tables as arrays; the contract of together.
-/
import Derived.Test.YtpildecpabeanaaG05
import Derived.Handy
import Derived.Below
namespace Go.Proofs.Ytpildecpabeanaa
open Go.RowKit

/-- A table as a value. -/
def ag8 (f : Nat → Int) : Value := .agg #[.int .i64 (f 0), .int .i64 (f 1), .int .i64 (f 2), .int .i64 (f 3), .int .i64 (f 4), .int .i64 (f 5), .int .i64 (f 6), .int .i64 (f 7)]
def lit8 (f : Nat → Int) : List Int := [f 0, f 1, f 2, f 3, f 4, f 5, f 6, f 7]
theorem lit8_T {l : List Int} (h : l.length = 8) : lit8 (T l) = l := by
  match l, h with
  | [a, b, c, d, e, f, g, i], _ => rfl
theorem idx8 (f : Nat → Int) {k : Nat} (hk : k < 8) (w : World) :
    (Instr.index 96 (.agg #[.int .i64 (f 0), .int .i64 (f 1), .int .i64 (f 2), .int .i64 (f 3), .int .i64 (f 4), .int .i64 (f 5), .int .i64 (f 6), .int .i64 (f 7)]) (.int .i64 (k : Int))).run Try.prog w = .ok (.int .i64 (f k)) w := by
  rcases nat8 hk with rfl | rfl | rfl | rfl | rfl | rfl | rfl | rfl <;> kernel_rfl

/-- Block m is a table. -/
def Arr (w : World) (m : Nat) (l : List Int) : Prop := l.length = 8 ∧ w.heap[m]? = some (.cells (l.map (Value.int .i64)).toArray 96)
theorem Arr.cell {w : World} {m : Nat} {l : List Int} (h : Arr w m l) {k : Nat} (hk : k < 8) : w.cell? ⟨m, k, none⟩ = some (.int .i64 (T l k)) := by
  have hk' : k < l.length := by rw [h.1]; exact hk
  unfold World.cell?
  rw [h.2]
  simp [T, hk']
theorem Arr.free {w : World} {m : Nat} {l : List Int} (h : Arr w m l) (k : Nat) : w.frozen? ⟨m, k, none⟩ = false := by
  unfold World.frozen?
  rw [h.2]
  simp
theorem Arr.new (w : World) (l : List Int) (hl : l.length = 8) : Arr (w.alloc (.cells (l.map (Value.int .i64)).toArray 96)) w.heap.size l := ⟨hl, by show (w.heap.push _)[_]? = _; simp⟩
theorem Arr.keep {w w' : World} {m : Nat} {l : List Int} (h : Arr w m l) (he : w'.heap[m]? = w.heap[m]?) : Arr w' m l := ⟨h.1, he.trans h.2⟩
theorem Arr.lt {w : World} {m : Nat} {l : List Int} (h : Arr w m l) : m < w.heap.size := by
  rcases Nat.lt_or_ge m w.heap.size with h1 | h1
  · exact h1
  · have := h.2; rw [Array.getElem?_eq_none h1] at this; cases this
theorem Arr.alloc {w : World} {m : Nat} {l : List Int} (h : Arr w m l) (o : Obj) : Arr (w.alloc o) m l := h.keep (Below.heap_alloc w o m h.lt)
theorem Arr.other {w : World} {m m' k : Nat} {v : Value} {l : List Int} (h : Arr w m l) (hne : m ≠ m') : Arr (w.setCell ⟨m', k, none⟩ v) m l := h.keep (Below.heap_setCell w _ v m hne)
theorem Arr.set_ {w : World} {m k : Nat} {l : List Int} (h : Arr w m l) (x : Int) : Arr (w.setCell ⟨m, k, none⟩ (.int .i64 x)) m (l.set k x) := by
  refine ⟨by rw [List.length_set]; exact h.1, ?_⟩
  simp only [World.setCell, Array.getElem?_modify, if_true, h.2]
  simp [List.map_set]

theorem Arr.got {w : World} {m k : Nat} {l : List Int} (h : Arr w m l) (hk : k < 8) (x : Int) : (w.setCell ⟨m, k, none⟩ (.int .i64 x)).cell? ⟨m, k, none⟩ = some (.int .i64 x) := by
  rw [(h.set_ x).cell hk, T_set (by rw [h.1]; exact hk), if_pos rfl]
theorem Arr.all {w : World} {m : Nat} {l : List Int} (h : Arr w m l) : w.cell? ⟨m, 0, none⟩ = some (.int .i64 (T l 0)) ∧ w.cell? ⟨m, 1, none⟩ = some (.int .i64 (T l 1)) ∧ w.cell? ⟨m, 2, none⟩ = some (.int .i64 (T l 2)) ∧ w.cell? ⟨m, 3, none⟩ = some (.int .i64 (T l 3)) ∧
    w.cell? ⟨m, 4, none⟩ = some (.int .i64 (T l 4)) ∧ w.cell? ⟨m, 5, none⟩ = some (.int .i64 (T l 5)) ∧ w.cell? ⟨m, 6, none⟩ = some (.int .i64 (T l 6)) ∧ w.cell? ⟨m, 7, none⟩ = some (.int .i64 (T l 7)) :=
  ⟨h.cell (by omega), h.cell (by omega), h.cell (by omega), h.cell (by omega), h.cell (by omega), h.cell (by omega), h.cell (by omega), h.cell (by omega)⟩

theorem below_al2 {w wr : World} {k : Nat} {v : Value} (h : Below w.heap.size w wr) : Below w.heap.size w (wr.setCell ⟨w.heap.size + 1 + 1, k, none⟩ v) := h.setCell (by show w.heap.size ≤ w.heap.size + 1 + 1; omega) _
/-- Where together stands. -/
def TgAt (w wr : World) (f g : Nat → Int) (p r : Nat) : Prop := Below w.heap.size w wr ∧ Arr wr (w.heap.size + 1) (lit8 g) ∧ Arr wr (w.heap.size + 1 + 1) (List.replicate 8 0) ∧ Arr wr (w.heap.size + 1 + 1 + 1) (tgTo f g p r)
theorem TgAt.skip {w wr : World} {f g : Nat → Int} {p r : Nat} (h : TgAt w wr f g p r) (hz : ¬ p &&& r = 0) : TgAt w wr f g p (r + 1) :=
  ⟨h.1, h.2.1, h.2.2.1, by rw [tgTo_next, tgStep_no _ hz]; exact h.2.2.2⟩
theorem TgAt.put {w wr : World} {f g : Nat → Int} {p r : Nat} {v : Int} (h : TgAt w wr f g p r) (hz : p &&& r = 0) (hv : v = max (T (tgTo f g p r) (p ||| r)) (f p + g r)) : TgAt w (wr.setCell ⟨w.heap.size + 1 + 1 + 1, p ||| r, none⟩ (.int .i64 v)) f g p (r + 1) :=
  ⟨h.1.setCell (by show w.heap.size ≤ w.heap.size + 1 + 1 + 1; omega) _, h.2.1.other (by omega), h.2.2.1.other (by omega), by rw [tgTo_next, tgStep_yes _ hz, ← hv]; exact h.2.2.2.set_ v⟩
theorem TgAt.row {w wr : World} {f g : Nat → Int} {p : Nat} (h : TgAt w wr f g p 8) : TgAt w wr f g (p + 1) 0 := by rw [TgAt, ← tgTo_row]; exact h

set_option maxHeartbeats 1600000 in
theorem together_any (f g : Nat → Int) (F G : Int) (hf : ∀ s, s < 8 → 0 ≤ f s ∧ f s ≤ F) (hg : ∀ s, s < 8 → 0 ≤ g s ∧ g s ≤ G) (hF : F + G ≤ 1048576) (w : World) :
    Calls Try.prog 149 #[ag8 f, ag8 g] w fun e w' => e = .returned (ag8 (T (tg f g))) ∧ Below w.heap.size w w' := by
  have HI := Lib.hid (fun (k : Nat) (hk : k < 8) => idx8 f hk)
  have HJ := Lib.hid (fun (k : Nat) (hk : k < 8) => idx8 g hk)
  have HF := Lib.hid hf
  have HG := Lib.hid hg
  have HBD := Lib.hid (fun (p r : Nat) (hp : p < 8) (hr : r ≤ 8) => tgTo_bd (M := 1048576) hf hg hF (p := p) (r := r) (by omega) hr (.inr hp))
  have HFG := Lib.hid hF
  have HS : Hid (TgAt w ((((w.alloc (.cells #[.int .i64 (f 0), .int .i64 (f 1), .int .i64 (f 2), .int .i64 (f 3), .int .i64 (f 4), .int .i64 (f 5), .int .i64 (f 6), .int .i64 (f 7)] 96)).alloc (.cells #[.int .i64 (g 0), .int .i64 (g 1), .int .i64 (g 2), .int .i64 (g 3), .int .i64 (g 4), .int .i64 (g 5), .int .i64 (g 6), .int .i64 (g 7)] 96)).alloc
      (.cells #[.int .i64 0, .int .i64 0, .int .i64 0, .int .i64 0, .int .i64 0, .int .i64 0, .int .i64 0, .int .i64 0] 96)).alloc (.cells #[.int .i64 0, .int .i64 0, .int .i64 0, .int .i64 0, .int .i64 0, .int .i64 0, .int .i64 0, .int .i64 0] 96)) f g 0 0) := by
    refine Lib.hid ⟨?_, ?_, ?_, ?_⟩
    · exact ((((Below.refl _ w).alloc (Nat.le_refl _) _).alloc (by simp) _).alloc (by simp; omega) _).alloc (by simp; omega) _
    · have h1 := Arr.new (w.alloc (.cells #[.int .i64 (f 0), .int .i64 (f 1), .int .i64 (f 2), .int .i64 (f 3), .int .i64 (f 4), .int .i64 (f 5), .int .i64 (f 6), .int .i64 (f 7)] 96)) (lit8 g) rfl
      rw [show (w.alloc (.cells #[.int .i64 (f 0), .int .i64 (f 1), .int .i64 (f 2), .int .i64 (f 3), .int .i64 (f 4), .int .i64 (f 5), .int .i64 (f 6), .int .i64 (f 7)] 96)).heap.size = w.heap.size + 1 by simp] at h1
      exact (h1.alloc _).alloc _
    · have h1 := Arr.new ((w.alloc (.cells #[.int .i64 (f 0), .int .i64 (f 1), .int .i64 (f 2), .int .i64 (f 3), .int .i64 (f 4), .int .i64 (f 5), .int .i64 (f 6), .int .i64 (f 7)] 96)).alloc (.cells #[.int .i64 (g 0), .int .i64 (g 1), .int .i64 (g 2), .int .i64 (g 3), .int .i64 (g 4), .int .i64 (g 5), .int .i64 (g 6), .int .i64 (g 7)] 96)) (List.replicate 8 0) rfl
      simp only [show ∀ (w : World) (o : Obj), (w.alloc o).heap.size = w.heap.size + 1 from fun w o => by simp] at h1
      exact h1.alloc _
    · have h1 := Arr.new (((w.alloc (.cells #[.int .i64 (f 0), .int .i64 (f 1), .int .i64 (f 2), .int .i64 (f 3), .int .i64 (f 4), .int .i64 (f 5), .int .i64 (f 6), .int .i64 (f 7)] 96)).alloc (.cells #[.int .i64 (g 0), .int .i64 (g 1), .int .i64 (g 2), .int .i64 (g 3), .int .i64 (g 4), .int .i64 (g 5), .int .i64 (g 6), .int .i64 (g 7)] 96)).alloc
        (.cells #[.int .i64 0, .int .i64 0, .int .i64 0, .int .i64 0, .int .i64 0, .int .i64 0, .int .i64 0, .int .i64 0] 96)) (List.replicate 8 0) rfl
      simp only [show ∀ (w : World) (o : Obj), (w.alloc o).heap.size = w.heap.size + 1 from fun w o => by simp] at h1
      rw [tgTo_start]
      exact h1
  clear hf hg hF
  obtain ⟨l, hl⟩ : ∃ l, l = tg f g := ⟨_, rfl⟩
  have HL := Lib.hid hl
  rw [← hl]
  clear hl
  unfold ag8
  go_enter Try.func149, Try.ntmps149
  go_wp2
  go_loopw [11] (fun i wr => ∃ k : Nat, k ≤ 8 ∧ i = .int .i64 (k : Int) ∧ Hid (TgAt w wr f g k 0)) (fun i _ => 8 - (intOf i).toNat)
  case atStart => exact ⟨0, by omega, rfl, HS⟩
  case round =>
    obtain ⟨k, hk, rfl, HA⟩ := hrel
    clear HS
    by_cases hlt : k < 8
    · have hk0 : (0 : Int) ≤ (k : Int) := by omega
      have hk8 : (k : Int) < 8 := by omega
      have hi := HI.out k hlt
      have HFk := Lib.hid (HF.out k hlt)
      obtain ⟨c0, c1, c2, c3, c4, c5, c6, c7⟩ := HA.out.2.1.all
      simp only [show T (lit8 g) 0 = g 0 from rfl, show T (lit8 g) 1 = g 1 from rfl, show T (lit8 g) 2 = g 2 from rfl, show T (lit8 g) 3 = g 3 from rfl, show T (lit8 g) 4 = g 4 from rfl, show T (lit8 g) 5 = g 5 from rfl, show T (lit8 g) 6 = g 6 from rfl, show T (lit8 g) 7 = g 7 from rfl] at c0 c1 c2 c3 c4 c5 c6 c7
      go_wp2
      clear hi c0 c1 c2 c3 c4 c5 c6 c7
      go_loopw [16] (fun i wr => ∃ j : Nat, j ≤ 8 ∧ i = .int .i64 (j : Int) ∧ Hid (TgAt w wr f g k j)) (fun i _ => 8 - (intOf i).toNat)
      case atStart => exact ⟨0, by omega, rfl, HA⟩
      case round =>
        clear HA
        obtain ⟨j, hj, rfl, HA⟩ := hrel
        by_cases hjl : j < 8
        · have hj0 : (0 : Int) ≤ (j : Int) := by omega
          have hj8 : (j : Int) < 8 := by omega
          have hi := HJ.out j hjl
          have ha := and_nat hlt hjl
          by_cases hz : k &&& j = 0
          · rw [hz] at ha
            have ho := or_nat hlt hjl
            have ho8 := or8 hlt hjl
            have hu := HA.out.2.2.2.cell ho8
            have hfr := HA.out.2.2.2.free (k ||| j)
            have hub := (HBD.out k j hlt hj).2 (k ||| j) ho8
            have hfb := HFk.out
            have hgb := HG.out j hjl
            have HP := Lib.hid (fun (v : Int) (hv : v = max (T (tgTo f g k j) (k ||| j)) (f k + g j)) => HA.out.put hz hv)
            have hFG := HFG.out
            have e1 : IntKind.i64.wrap (f k + g j) = f k + g j := IntWalk.i64_in _ (by omega)
            obtain ⟨u, hU⟩ : ∃ u, u = T (tgTo f g k j) (k ||| j) := ⟨_, rfl⟩
            obtain ⟨q, hq⟩ : ∃ q, q = k ||| j := ⟨_, rfl⟩
            rw [← hU] at hu HP
            rw [← hq] at hu ho hfr HP ho8
            have HQ := Lib.hid (HP.out (if u < f k + g j then f k + g j else u) (by split <;> omega))
            have hq0 : (0 : Int) ≤ (q : Int) := by omega
            have hq8 : (q : Int) < 8 := by omega
            clear hU hq hub hfb hgb hz HP hFG
            go_wp2
            go_roundw
            case rel => exact ⟨j + 1, by omega, by go_num, HQ⟩
            case measure => simp [intOf]; omega
          · have hnz : ¬ ((k &&& j : Nat) : Int) = 0 := by omega
            have HQ := Lib.hid (HA.out.skip hz)
            clear hz
            go_wp2
            go_roundw
            case rel => exact ⟨j + 1, by omega, by go_num, HQ⟩
            case measure => simp [intOf]; omega
        · obtain rfl : j = 8 := by omega
          have HQ := Lib.hid HA.out.row
          go_wp2
          go_roundw
          case rel => exact ⟨k + 1, by omega, by go_num, HQ⟩
          case measure => simp [intOf]; omega
    · obtain rfl : k = 8 := by omega
      obtain ⟨hb, _, hr, hbo⟩ := HA.out
      rw [tgTo_all, ← HL.out] at hbo
      obtain ⟨c0, c1, c2, c3, c4, c5, c6, c7⟩ := hbo.all
      have f0 := hr.free 0
      have f1 := hr.free 1
      have f2 := hr.free 2
      have f3 := hr.free 3
      have f4 := hr.free 4
      have f5 := hr.free 5
      have f6 := hr.free 6
      have f7 := hr.free 7
      obtain ⟨r0, r1, r2, r3, r4, r5, r6, r7⟩ := hr.all
      have a0 := hr.set_ (k := 0) (T l 0)
      have s0 : (wr.setCell ⟨w.heap.size + 1 + 1, 0, none⟩ (.int .i64 (T l 0))).cell? ⟨w.heap.size + 1 + 1, 0, none⟩ = some (.int .i64 (T l 0)) := hr.got (by omega) _
      have a1 := a0.set_ (k := 1) (T l 1)
      have s1 : ((wr.setCell ⟨w.heap.size + 1 + 1, 0, none⟩ (.int .i64 (T l 0))).setCell ⟨w.heap.size + 1 + 1, 1, none⟩ (.int .i64 (T l 1))).cell? ⟨w.heap.size + 1 + 1, 1, none⟩ = some (.int .i64 (T l 1)) := a0.got (by omega) _
      have a2 := a1.set_ (k := 2) (T l 2)
      have s2 : (((wr.setCell ⟨w.heap.size + 1 + 1, 0, none⟩ (.int .i64 (T l 0))).setCell ⟨w.heap.size + 1 + 1, 1, none⟩ (.int .i64 (T l 1))).setCell ⟨w.heap.size + 1 + 1, 2, none⟩ (.int .i64 (T l 2))).cell? ⟨w.heap.size + 1 + 1, 2, none⟩ = some (.int .i64 (T l 2)) := a1.got (by omega) _
      have a3 := a2.set_ (k := 3) (T l 3)
      have s3 : ((((wr.setCell ⟨w.heap.size + 1 + 1, 0, none⟩ (.int .i64 (T l 0))).setCell ⟨w.heap.size + 1 + 1, 1, none⟩ (.int .i64 (T l 1))).setCell ⟨w.heap.size + 1 + 1, 2, none⟩ (.int .i64 (T l 2))).setCell ⟨w.heap.size + 1 + 1, 3, none⟩ (.int .i64 (T l 3))).cell? ⟨w.heap.size + 1 + 1, 3, none⟩ = some (.int .i64 (T l 3)) := a2.got (by omega) _
      have a4 := a3.set_ (k := 4) (T l 4)
      have s4 : (((((wr.setCell ⟨w.heap.size + 1 + 1, 0, none⟩ (.int .i64 (T l 0))).setCell ⟨w.heap.size + 1 + 1, 1, none⟩ (.int .i64 (T l 1))).setCell ⟨w.heap.size + 1 + 1, 2, none⟩ (.int .i64 (T l 2))).setCell ⟨w.heap.size + 1 + 1, 3, none⟩ (.int .i64 (T l 3))).setCell ⟨w.heap.size + 1 + 1, 4, none⟩ (.int .i64 (T l 4))).cell? ⟨w.heap.size + 1 + 1, 4, none⟩ = some (.int .i64 (T l 4)) := a3.got (by omega) _
      have a5 := a4.set_ (k := 5) (T l 5)
      have s5 : ((((((wr.setCell ⟨w.heap.size + 1 + 1, 0, none⟩ (.int .i64 (T l 0))).setCell ⟨w.heap.size + 1 + 1, 1, none⟩ (.int .i64 (T l 1))).setCell ⟨w.heap.size + 1 + 1, 2, none⟩ (.int .i64 (T l 2))).setCell ⟨w.heap.size + 1 + 1, 3, none⟩ (.int .i64 (T l 3))).setCell ⟨w.heap.size + 1 + 1, 4, none⟩ (.int .i64 (T l 4))).setCell ⟨w.heap.size + 1 + 1, 5, none⟩ (.int .i64 (T l 5))).cell? ⟨w.heap.size + 1 + 1, 5, none⟩ = some (.int .i64 (T l 5)) := a4.got (by omega) _
      have a6 := a5.set_ (k := 6) (T l 6)
      have s6 : (((((((wr.setCell ⟨w.heap.size + 1 + 1, 0, none⟩ (.int .i64 (T l 0))).setCell ⟨w.heap.size + 1 + 1, 1, none⟩ (.int .i64 (T l 1))).setCell ⟨w.heap.size + 1 + 1, 2, none⟩ (.int .i64 (T l 2))).setCell ⟨w.heap.size + 1 + 1, 3, none⟩ (.int .i64 (T l 3))).setCell ⟨w.heap.size + 1 + 1, 4, none⟩ (.int .i64 (T l 4))).setCell ⟨w.heap.size + 1 + 1, 5, none⟩ (.int .i64 (T l 5))).setCell ⟨w.heap.size + 1 + 1, 6, none⟩ (.int .i64 (T l 6))).cell? ⟨w.heap.size + 1 + 1, 6, none⟩ = some (.int .i64 (T l 6)) := a5.got (by omega) _
      have a7 := a6.set_ (k := 7) (T l 7)
      have s7 : ((((((((wr.setCell ⟨w.heap.size + 1 + 1, 0, none⟩ (.int .i64 (T l 0))).setCell ⟨w.heap.size + 1 + 1, 1, none⟩ (.int .i64 (T l 1))).setCell ⟨w.heap.size + 1 + 1, 2, none⟩ (.int .i64 (T l 2))).setCell ⟨w.heap.size + 1 + 1, 3, none⟩ (.int .i64 (T l 3))).setCell ⟨w.heap.size + 1 + 1, 4, none⟩ (.int .i64 (T l 4))).setCell ⟨w.heap.size + 1 + 1, 5, none⟩ (.int .i64 (T l 5))).setCell ⟨w.heap.size + 1 + 1, 6, none⟩ (.int .i64 (T l 6))).setCell ⟨w.heap.size + 1 + 1, 7, none⟩ (.int .i64 (T l 7))).cell? ⟨w.heap.size + 1 + 1, 7, none⟩ = some (.int .i64 (T l 7)) := a6.got (by omega) _
      have HB : Hid (Below w.heap.size w ((((((((wr.setCell ⟨w.heap.size + 1 + 1, 0, none⟩ (.int .i64 (T l 0))).setCell ⟨w.heap.size + 1 + 1, 1, none⟩ (.int .i64 (T l 1))).setCell ⟨w.heap.size + 1 + 1, 2, none⟩ (.int .i64 (T l 2))).setCell ⟨w.heap.size + 1 + 1, 3, none⟩ (.int .i64 (T l 3))).setCell ⟨w.heap.size + 1 + 1, 4, none⟩ (.int .i64 (T l 4))).setCell ⟨w.heap.size + 1 + 1, 5, none⟩ (.int .i64 (T l 5))).setCell ⟨w.heap.size + 1 + 1, 6, none⟩ (.int .i64 (T l 6))).setCell ⟨w.heap.size + 1 + 1, 7, none⟩ (.int .i64 (T l 7)))) := Lib.hid (below_al2 (below_al2 (below_al2 (below_al2 (below_al2 (below_al2 (below_al2 (below_al2 (hb)))))))))
      clear a0 a1 a2 a3 a4 a5 a6 a7 hr hbo
      go_wp2
      refine bodyPost_ret (by simp [results, Try.results149, go_sem, s0, s1, s2, s3, s4, s5, s6, s7]; try rfl) rfl ?_
      exact ⟨rfl, HB.out⟩

end Go.Proofs.Ytpildecpabeanaa

/-
  Chapter 1 in plain arithmetic: who has the thing, what all pay, what is gained, by whatever kind.
-/
namespace Go.Proofs.Ytpildecpabeanaa

/-- Of the first k bids the first one of the greatest. -/
def gr (xs : List Int) : Nat → Nat
  | 0 => 0
  | k + 1 => if xs.getD (gr xs k) 0 < xs.getD k 0 then k else gr xs k

theorem gr_one (xs : List Int) : gr xs 1 = 0 := by simp [gr]
theorem gr_lt (xs : List Int) : ∀ k, 1 ≤ k → gr xs k < k
  | 0, h => by omega
  | 1, _ => by simp [gr]
  | k + 2, _ => by
    have := gr_lt xs (k + 1) (by omega)
    rw [gr]; split <;> omega
theorem gr_max (xs : List Int) : ∀ k j, j < k → xs.getD j 0 ≤ xs.getD (gr xs k) 0
  | 0, j, h => by omega
  | k + 1, j, h => by
    rw [gr]
    rcases Nat.lt_or_ge j k with hj | hj
    · have := gr_max xs k j hj
      split <;> omega
    · obtain rfl : j = k := by omega
      split <;> omega
theorem gr_first (xs : List Int) : ∀ k j, j < gr xs k → xs.getD j 0 < xs.getD (gr xs k) 0
  | 0, j, h => by simp [gr] at h
  | k + 1, j, h => by
    rw [gr] at h ⊢
    split at h
    · rename_i hc
      rw [if_pos hc]
      have := gr_max xs k j h
      omega
    · rename_i hc
      rw [if_neg hc]
      exact gr_first xs k j h

/-- The greatest one of all, the next one, and so on, 0 behind the last. -/
def nthG : Nat → List Int → Int
  | _, [] => 0
  | 0, x :: xs => (x :: xs).getD (gr (x :: xs) (xs.length + 1)) 0
  | m + 1, x :: xs => nthG m ((x :: xs).eraseIdx (gr (x :: xs) (xs.length + 1)))

theorem nthG_nil (m : Nat) : nthG m [] = 0 := by cases m <;> rfl
theorem nthG_zero (xs : List Int) : nthG 0 xs = xs.getD (gr xs xs.length) 0 := by cases xs <;> rfl
theorem nthG_succ (m : Nat) (xs : List Int) : nthG (m + 1) xs = nthG m (xs.eraseIdx (gr xs xs.length)) := by
  cases xs with
  | nil => simp [nthG_nil]
  | cons x xs => rfl

/-- Ascending order. -/
def Asc (s : List Int) : Prop := s.Pairwise (· ≤ ·)

theorem asc_last {s : List Int} {M : Int} (h : Asc (s ++ [M])) : ∀ x ∈ s, x ≤ M := by
  unfold Asc at h
  rw [List.pairwise_append] at h
  exact fun x hx => h.2.2 x hx M (by simp)

theorem nth_sorted : ∀ (m : Nat) (xs s : List Int), Asc s → s.Perm xs → m < xs.length → nthG m xs = s.getD (xs.length - 1 - m) 0
  | m, xs, s, ha, hp, hm => by
    have hl := hp.length_eq
    have hg := gr_lt xs xs.length (by omega)
    have hs : s ≠ [] := by rintro rfl; simp at hl; omega
    obtain ⟨s', M, rfl⟩ : ∃ s' M, s = s' ++ [M] := ⟨s.dropLast, s.getLast hs, (List.dropLast_concat_getLast hs).symm⟩
    simp at hl
    have hx : xs.getD (gr xs xs.length) 0 = M := by
      have h1 : xs.getD (gr xs xs.length) 0 ∈ xs := by rw [List.getD_eq_getElem?_getD, List.getElem?_eq_getElem hg]; simp
      have h2 : xs.getD (gr xs xs.length) 0 ≤ M := by
        rcases List.mem_append.1 (hp.mem_iff.2 h1) with h | h
        · exact asc_last ha _ h
        · have := List.mem_singleton.1 h; omega
      have h3 : M ∈ xs := hp.mem_iff.1 (by simp)
      obtain ⟨j, hj, he⟩ := List.getElem_of_mem h3
      have h4 := gr_max xs xs.length j hj
      have h5 : xs.getD j 0 = M := by rw [List.getD_eq_getElem?_getD, List.getElem?_eq_getElem hj]; exact he
      omega
    cases m with
    | zero => rw [nthG_zero, hx, show xs.length - 1 - 0 = s'.length by omega]; simp
    | succ m =>
      have hp' : s'.Perm (xs.eraseIdx (gr xs xs.length)) := by
        have e1 : xs.Perm (M :: xs.eraseIdx (gr xs xs.length)) := by
          have hM : xs[gr xs xs.length] = M := by rw [← hx, List.getD_eq_getElem?_getD, List.getElem?_eq_getElem hg]; rfl
          have h6 : xs = xs.take (gr xs xs.length) ++ M :: xs.drop (gr xs xs.length + 1) := by rw [← hM]; simp
          rw [List.eraseIdx_eq_take_drop_succ]
          exact (List.Perm.of_eq h6).trans List.perm_middle
        have e2 : (s' ++ [M]).Perm (M :: s') := List.perm_append_comm
        exact (List.perm_cons M).1 (e2.symm.trans (hp.trans e1))
      have ha' : Asc s' := by unfold Asc at ha ⊢; rw [List.pairwise_append] at ha; exact ha.1
      have he : (xs.eraseIdx (gr xs xs.length)).length = xs.length - 1 := by rw [List.length_eraseIdx, if_pos hg]
      rw [nthG_succ, nth_sorted m _ s' ha' hp' (by omega), he]
      rw [show xs.length - 1 - 1 - m = xs.length - 1 - (m + 1) by omega, List.getD_eq_getElem?_getD, List.getD_eq_getElem?_getD, List.getElem?_append_left (by omega)]

theorem nthG_behind : ∀ (m : Nat) (xs : List Int), xs.length ≤ m → nthG m xs = 0
  | m, [], _ => nthG_nil m
  | 0, x :: xs, h => by simp at h
  | m + 1, x :: xs, h => by
    have hg := gr_lt (x :: xs) (x :: xs).length (by simp)
    rw [nthG_succ]
    refine nthG_behind m _ ?_
    rw [List.length_eraseIdx, if_pos hg]
    simp at h ⊢
    omega

/-- Who has the thing: the first one of the greatest bids, -1 if this is less than the reserve. -/
def atOf (xs : List Int) (r : Int) : Int := if xs.getD (gr xs xs.length) 0 < r then -1 else gr xs xs.length

/-- What all pay by the kind kd: 1, 2, 3: the price of that rank; 4: all pay. -/
def payOf (kd : Nat) (xs : List Int) (r : Int) : List Int :=
  if kd = 4 then xs
  else if xs.getD (gr xs xs.length) 0 < r then List.replicate xs.length 0
  else (List.replicate xs.length 0).set (gr xs xs.length) (max r (nthG (kd - 1) xs))

theorem payOf_len (kd : Nat) (xs : List Int) (r : Int) : (payOf kd xs r).length = xs.length := by
  unfold payOf; split
  · rfl
  · split <;> simp
theorem payOf_all (xs : List Int) (r : Int) : payOf 4 xs r = xs := by simp [payOf]
theorem payOf_none {kd : Nat} {xs : List Int} {r : Int} (hk : kd ≠ 4) (h : xs.getD (gr xs xs.length) 0 < r) : payOf kd xs r = List.replicate xs.length 0 := by
  rw [payOf, if_neg hk, if_pos h]
theorem payOf_some {kd : Nat} {xs : List Int} {r : Int} (hk : kd ≠ 4) (h : ¬ xs.getD (gr xs xs.length) 0 < r) : payOf kd xs r = (List.replicate xs.length 0).set (gr xs xs.length) (max r (nthG (kd - 1) xs)) := by
  rw [payOf, if_neg hk, if_neg h]
theorem payOf_first {xs : List Int} {r : Int} (h : ¬ xs.getD (gr xs xs.length) 0 < r) : payOf 1 xs r = (List.replicate xs.length 0).set (gr xs xs.length) (xs.getD (gr xs xs.length) 0) := by
  rw [payOf_some (by decide) h, nthG_zero, Int.max_eq_right (by omega)]
theorem atOf_none {xs : List Int} {r : Int} (h : xs.getD (gr xs xs.length) 0 < r) : atOf xs r = -1 := by rw [atOf, if_pos h]
theorem atOf_some {xs : List Int} {r : Int} (h : ¬ xs.getD (gr xs xs.length) 0 < r) : atOf xs r = gr xs xs.length := by rw [atOf, if_neg h]

/-- What the bidder i has of a sale. -/
def gainF (kd : Nat) (xs : List Int) (i : Nat) (v r : Int) : Int := (if atOf xs r = i then v else 0) - (payOf kd xs r).getD i 0

/-- The least one up to k by which g is the greatest, and this. -/
def bestF (g : Nat → Int) : Nat → Nat × Int
  | 0 => (0, g 0)
  | k + 1 => if (bestF g k).2 < g (k + 1) then (k + 1, g (k + 1)) else bestF g k

/-- The first one from k on, of n, of which p holds. -/
def findF (p : Nat → Bool) : Nat → Nat → Option Nat
  | 0, _ => none
  | n + 1, k => if p k then some k else findF p n (k + 1)
theorem findF_yes {p : Nat → Bool} {n k : Nat} (h : p k = true) : findF p (n + 1) k = some k := by rw [findF, if_pos h]
theorem findF_no {p : Nat → Bool} {n k : Nat} (h : p k = false) : findF p (n + 1) k = findF p n (k + 1) := by rw [findF, if_neg (by simp [h])]

/-- Whether the bidder i has the thing with the bid b. -/
def winB (xs : List Int) (i : Nat) (r : Int) (b : Nat) : Bool := decide (atOf (xs.set i b) r = i)
/-- The least bid with which the bidder i has the thing. -/
def leastF (xs : List Int) (i : Nat) (r : Int) : Option Nat := findF (winB xs i r) 31 0
def optN : Option Nat → Int
  | some b => b
  | none => 0

end Go.Proofs.Ytpildecpabeanaa

/-
  Chapter 3 in plain arithmetic: what units are worth at best, bidder by bidder, and what bounds it.
-/
namespace Go.Proofs.Ytpildecpabeanaa

/-- What the first k numbers are together. -/
def pre (r : List Int) (k : Nat) : Int := (r.take k).sum
theorem pre_zero (r : List Int) : pre r 0 = 0 := by simp [pre]
theorem pre_nil (k : Nat) : pre [] k = 0 := by simp [pre]
theorem pre_cons (x : Int) (r : List Int) (k : Nat) : pre (x :: r) (k + 1) = x + pre r k := by simp [pre]
theorem pre_step {r : List Int} {k : Nat} {x : Int} (hx : r[k]? = some x) : pre r (k + 1) = pre r k + x := by
  unfold pre; rw [List.take_add_one, hx]; simp
theorem pre_end {r : List Int} {k : Nat} (h : r.length ≤ k) : pre r k = pre r r.length := by
  unfold pre; rw [List.take_of_length_le h, List.take_length]
theorem pre_min (r : List Int) (k : Nat) : pre r (min k r.length) = pre r k := by
  rcases Nat.le_total k r.length with h | h
  · rw [Nat.min_eq_left h]
  · rw [Nat.min_eq_right h, pre_end h]

/-- A row: at most five numbers of 0..30, none greater than one ahead. -/
def RowOk (r : List Int) : Prop := r.length ≤ 5 ∧ ∀ (k : Nat) (x : Int), r[k]? = some x → 0 ≤ x ∧ x ≤ 30 ∧ ∀ (j : Nat) (y : Int), j < k → r[j]? = some y → x ≤ y

theorem rowOk_of {r : List Int} (hl : r.length ≤ 5) (h : ∀ (k : Nat) (x : Int), r[k]? = some x → 0 ≤ x ∧ x ≤ 30 ∧ ∀ y : Int, 0 < k → r[k - 1]? = some y → x ≤ y) : RowOk r := by
  refine ⟨hl, fun k => ?_⟩
  induction k with
  | zero => exact fun x hx => ⟨(h 0 x hx).1, (h 0 x hx).2.1, fun j y hj => absurd hj (by omega)⟩
  | succ k ih =>
    intro x hx
    obtain ⟨h1, h2, h3⟩ := h (k + 1) x hx
    refine ⟨h1, h2, fun j y hj hy => ?_⟩
    have hk : k < r.length := by have := (List.getElem?_eq_some_iff.1 hx).1; omega
    have hz : r[k]? = some r[k] := List.getElem?_eq_getElem hk
    have h4 : x ≤ r[k] := h3 _ (by omega) hz
    rcases Nat.lt_or_ge j k with hjk | hjk
    · have := (ih _ hz).2.2 j y hjk hy
      omega
    · obtain rfl : j = k := by omega
      rw [hz] at hy
      cases hy
      exact h4
theorem rowOk_nil : RowOk [] := ⟨by simp, fun k x h => by simp at h⟩

theorem pre_nn {r : List Int} (h : RowOk r) (k : Nat) : 0 ≤ pre r k ∧ pre r k ≤ 30 * k := by
  induction k with
  | zero => simp [pre]
  | succ k ih =>
    cases hx : r[k]? with
    | none =>
      have : r.length ≤ k := by simpa using hx
      rw [pre_end (by omega), ← pre_end this]
      omega
    | some x =>
      have := h.2 k x hx
      rw [pre_step hx]
      omega
theorem pre_le150 {r : List Int} (h : RowOk r) (k : Nat) : 0 ≤ pre r k ∧ pre r k ≤ 150 := by
  have h1 := pre_nn h (min k r.length)
  rw [pre_min] at h1
  have h2 := h.1
  have h3 : ((min k r.length : Nat) : Int) ≤ 5 := by omega
  omega

/-- The greatest of f at x, and of what m units less leave and the row gives for them, up to m units. -/
def convTo (f : Nat → Int) (r : List Int) (x : Nat) : Nat → Int
  | 0 => f x
  | m + 1 => max (convTo f r x m) (f (x - (m + 1)) + pre r (m + 1))
def conv (f : Nat → Int) (r : List Int) (x : Nat) : Int := convTo f r x x

/-- What at most x units are worth to the first n bidders, at best. -/
def bst (R : Nat → List Int) : Nat → Nat → Int
  | 0, _ => 0
  | i + 1, x => conv (bst R i) (R i) x

def sumTo (f : Nat → Int) : Nat → Int
  | 0 => 0
  | n + 1 => sumTo f n + f n
theorem sumTo_congr {f g : Nat → Int} {n : Nat} (h : ∀ i, i < n → f i = g i) : sumTo f n = sumTo g n := by
  induction n with
  | zero => rfl
  | succ n ih => rw [sumTo, sumTo, ih (fun i hi => h i (by omega)), h n (by omega)]
theorem sumTo_le {f g : Nat → Int} {n : Nat} (h : ∀ i, i < n → f i ≤ g i) : sumTo f n ≤ sumTo g n := by
  induction n with
  | zero => simp [sumTo]
  | succ n ih => have h1 := ih (fun i hi => h i (by omega)); have h2 := h n (by omega); rw [sumTo, sumTo]; omega
theorem sumTo_nn {f : Nat → Int} {n : Nat} (h : ∀ i, i < n → 0 ≤ f i) : 0 ≤ sumTo f n := by
  induction n with
  | zero => simp [sumTo]
  | succ n ih => have h1 := ih (fun i hi => h i (by omega)); have h2 := h n (by omega); rw [sumTo]; omega
theorem sumTo_add (f g : Nat → Int) (n : Nat) : sumTo (fun i => f i + g i) n = sumTo f n + sumTo g n := by
  induction n with
  | zero => rfl
  | succ n ih => simp only [sumTo, ih]; omega
theorem sumTo_sub (f g : Nat → Int) (n : Nat) : sumTo (fun i => f i - g i) n = sumTo f n - sumTo g n := by
  induction n with
  | zero => rfl
  | succ n ih => simp only [sumTo, ih]; omega
theorem sumTo_mul (f : Nat → Int) (t : Int) (n : Nat) : sumTo (fun i => f i * t) n = sumTo f n * t := by
  induction n with
  | zero => simp [sumTo]
  | succ n ih => simp only [sumTo, ih, Int.add_mul]
theorem sumTo_const (t : Int) (n : Nat) : sumTo (fun _ => t) n = n * t := by
  induction n with
  | zero => simp [sumTo]
  | succ n ih => simp only [sumTo, ih]; push_cast; rw [Int.add_mul]; omega
/-- One term is apart. -/
theorem sumTo_one {f g : Nat → Int} {n i : Nat} (hi : i < n) (h : ∀ j, j < n → j ≠ i → f j = g j) : sumTo f n - f i = sumTo g n - g i := by
  induction n with
  | zero => omega
  | succ n ih =>
    rw [sumTo, sumTo]
    rcases Nat.lt_or_ge i n with hin | hin
    · have h1 := ih hin (fun j hj hne => h j (by omega) hne)
      have h2 := h n (by omega) (by omega)
      omega
    · obtain rfl : i = n := by omega
      have h1 := sumTo_congr (f := f) (g := g) (n := i) (fun j hj => h j (by omega) (by omega))
      omega

/-- What the units are worth, h i of them to bidder i. -/
def val (R : Nat → List Int) (h : Nat → Nat) (n : Nat) : Int := sumTo (fun i => pre (R i) (h i)) n
def cnt (h : Nat → Nat) (n : Nat) : Int := sumTo (fun i => (h i : Int)) n
/-- How much numbers are above t. -/
def over (t : Int) (r : List Int) : Int := (r.map (fun x => max (x - t) 0)).sum
def ovs (t : Int) (R : Nat → List Int) (n : Nat) : Int := sumTo (fun i => over t (R i)) n

theorem over_nil (t : Int) : over t [] = 0 := rfl
theorem over_cons (t x : Int) (r : List Int) : over t (x :: r) = max (x - t) 0 + over t r := by simp [over]
theorem over_nn (t : Int) : ∀ r : List Int, 0 ≤ over t r
  | [] => by simp [over]
  | x :: r => by have := over_nn t r; rw [over_cons]; omega
theorem over_anti {s t : Int} (h : s ≤ t) : ∀ r : List Int, over t r ≤ over s r
  | [] => by simp [over]
  | x :: r => by have := over_anti h r; rw [over_cons, over_cons]; omega

theorem pre_bound {t : Int} (ht : 0 ≤ t) : ∀ (r : List Int) (c : Nat), pre r c ≤ c * t + over t r
  | [], c => by
    have : 0 ≤ (c : Int) * t := Int.mul_nonneg (by omega) ht
    rw [pre_nil, over_nil]; omega
  | x :: r, 0 => by
    have := over_nn t (x :: r)
    rw [pre_zero]; simp; exact this
  | x :: r, c + 1 => by
    have h1 := pre_bound ht r c
    rw [pre_cons, over_cons]
    have e : ((c + 1 : Nat) : Int) * t = c * t + t := by push_cast; rw [Int.add_mul]; omega
    rw [e]
    omega

theorem convTo_bound {f : Nat → Int} {r : List Int} {t F : Int} (ht : 0 ≤ t) (x : Nat) (hf : ∀ y, y ≤ x → f y ≤ y * t + F) : ∀ m, m ≤ x → convTo f r x m ≤ x * t + (F + over t r)
  | 0, _ => by
    have h1 := hf x (Nat.le_refl _)
    have h2 := over_nn t r
    rw [convTo]; omega
  | m + 1, hm => by
    have h1 := convTo_bound ht x hf m (by omega) (r := r)
    have h2 := hf (x - (m + 1)) (by omega)
    have h3 := pre_bound ht r (m + 1)
    obtain ⟨y, rfl⟩ : ∃ y, x = y + (m + 1) := ⟨x - (m + 1), by omega⟩
    rw [show y + (m + 1) - (m + 1) = y by omega] at h2
    have e : ((y + (m + 1) : Nat) : Int) * t = y * t + ((m + 1 : Nat) : Int) * t := by push_cast; rw [Int.add_mul]
    rw [convTo, show y + (m + 1) - (m + 1) = y by omega]
    omega
theorem convTo_ge {f : Nat → Int} {r : List Int} {x own : Nat} : ∀ m, own ≤ m → f (x - own) + pre r own ≤ convTo f r x m
  | 0, h => by
    obtain rfl : own = 0 := by omega
    rw [convTo, pre_zero]; simp
  | m + 1, h => by
    rw [convTo]
    rcases Nat.lt_or_ge own (m + 1) with h1 | h1
    · have := convTo_ge m (by omega) (f := f) (r := r) (x := x) (own := own); omega
    · obtain rfl : own = m + 1 := by omega
      omega

/-- No number of units is worth more at best than at a price t each, and what is above it. -/
theorem bst_bound {R : Nat → List Int} {t : Int} (ht : 0 ≤ t) : ∀ n k, bst R n k ≤ k * t + ovs t R n
  | 0, k => by
    have : 0 ≤ (k : Int) * t := Int.mul_nonneg (by omega) ht
    simp [bst, ovs, sumTo]; omega
  | n + 1, k => by
    have := convTo_bound (f := bst R n) (r := R n) (F := ovs t R n) ht k (fun y _ => bst_bound ht n y) k (Nat.le_refl _)
    exact this
/-- What is given is worth no more than the best. -/
theorem bst_ge {R : Nat → List Int} {h : Nat → Nat} : ∀ n (k : Nat), cnt h n ≤ k → val R h n ≤ bst R n k
  | 0, k, _ => by simp [bst, val, sumTo]
  | n + 1, k, hk => by
    have e : cnt h (n + 1) = cnt h n + h n := rfl
    have h0 : 0 ≤ cnt h n := sumTo_nn (fun i _ => by omega)
    have h1 := bst_ge n (k - h n) (by omega) (R := R) (h := h)
    have h2 := convTo_ge (f := bst R n) (r := R n) (x := k) (own := h n) k (by omega)
    have e2 : val R h (n + 1) = val R h n + pre (R n) (h n) := rfl
    have e3 : bst R (n + 1) k = convTo (bst R n) (R n) k k := rfl
    rw [e2, e3]; omega

/-- The numbers had are those above t. -/
theorem had_is {t : Int} : ∀ (r : List Int) (c : Nat), c ≤ r.length → (∀ (j : Nat) (x : Int), j < c → r[j]? = some x → t ≤ x) → (∀ (j : Nat) (x : Int), c ≤ j → r[j]? = some x → x ≤ t) → pre r c = c * t + over t r
  | [], c, hc, _, _ => by
    obtain rfl : c = 0 := by simpa using hc
    simp [pre, over]
  | x :: r, 0, _, _, h2 => by
    have h3 := had_is r 0 (Nat.zero_le _) (fun j y hj => absurd hj (by omega)) (fun j y _ hy => h2 (j + 1) y (by omega) (by simpa using hy))
    have h4 := h2 0 x (Nat.le_refl _) rfl
    rw [pre_zero] at h3 ⊢
    rw [over_cons]
    simp at h3 ⊢
    omega
  | x :: r, c + 1, hc, h1, h2 => by
    have h3 := had_is r c (by simpa using hc) (fun j y hj hy => h1 (j + 1) y (by omega) (by simpa using hy)) (fun j y hj hy => h2 (j + 1) y (by omega) (by simpa using hy))
    have h4 := h1 0 x (by omega) rfl
    rw [pre_cons, over_cons, h3]
    have e : ((c + 1 : Nat) : Int) * t = c * t + t := by push_cast; rw [Int.add_mul]; omega
    rw [e]
    omega

theorem bst_nn {R : Nat → List Int} (n k : Nat) : 0 ≤ bst R n k := by
  have h := bst_ge (R := R) (h := fun _ => 0) n k (by
    have : cnt (fun _ => 0) n = 0 := by
      have := sumTo_const 0 n
      simpa [cnt] using this
    omega)
  have e : val R (fun _ => 0) n = 0 := by
    have : val R (fun _ => 0) n = sumTo (fun _ => 0) n := sumTo_congr (fun i _ => pre_zero _)
    rw [this, sumTo_const]; simp
  omega

end Go.Proofs.Ytpildecpabeanaa
