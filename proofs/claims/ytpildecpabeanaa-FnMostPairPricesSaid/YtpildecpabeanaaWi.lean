/-
  Chapter 4, the program: tables as arrays; the contract of together.
-/
import Derived.Test.YtpildecpabeanaaG12
import Derived.Handy
namespace Go.Proofs.Ytpildecpabeanaa
open Go.RowKit

/-- A table as a value. -/
def ag8 (f : Nat → Int) : Value := .agg #[.int .i64 (f 0), .int .i64 (f 1), .int .i64 (f 2), .int .i64 (f 3), .int .i64 (f 4), .int .i64 (f 5), .int .i64 (f 6), .int .i64 (f 7)]
def lit8 (f : Nat → Int) : List Int := [f 0, f 1, f 2, f 3, f 4, f 5, f 6, f 7]
theorem lit8_T {l : List Int} (h : l.length = 8) : lit8 (T l) = l := by
  match l, h with
  | [a, b, c, d, e, f, g, i], _ => rfl
theorem idx8 (f : Nat → Int) {k : Nat} (hk : k < 8) (w : World) :
    (Instr.index 96 (.agg #[.int .i64 (f 0), .int .i64 (f 1), .int .i64 (f 2), .int .i64 (f 3), .int .i64 (f 4), .int .i64 (f 5), .int .i64 (f 6), .int .i64 (f 7)]) (.int .i64 (k : Int))).run Try.prog w = .ok (.int .i64 (f k)) w := by
  rcases nat8 hk with rfl | rfl | rfl | rfl | rfl | rfl | rfl | rfl <;> kernel_rfl

/-- Block m is a table. -/
def Arr (w : World) (m : Nat) (l : List Int) : Prop := l.length = 8 ∧ w.heap[m]? = some (.cells (l.map (Value.int .i64)).toArray 96)
theorem Arr.cell {w : World} {m : Nat} {l : List Int} (h : Arr w m l) {k : Nat} (hk : k < 8) : w.cell? ⟨m, k, none⟩ = some (.int .i64 (T l k)) := by
  have hk' : k < l.length := by rw [h.1]; exact hk
  unfold World.cell?
  rw [h.2]
  simp [T, hk']
theorem Arr.free {w : World} {m : Nat} {l : List Int} (h : Arr w m l) (k : Nat) : w.frozen? ⟨m, k, none⟩ = false := by
  unfold World.frozen?
  rw [h.2]
  simp
theorem Arr.new (w : World) (l : List Int) (hl : l.length = 8) : Arr (w.alloc (.cells (l.map (Value.int .i64)).toArray 96)) w.heap.size l := ⟨hl, by show (w.heap.push _)[_]? = _; simp⟩
theorem Arr.keep {w w' : World} {m : Nat} {l : List Int} (h : Arr w m l) (he : w'.heap[m]? = w.heap[m]?) : Arr w' m l := ⟨h.1, he.trans h.2⟩
theorem Arr.lt {w : World} {m : Nat} {l : List Int} (h : Arr w m l) : m < w.heap.size := by
  rcases Nat.lt_or_ge m w.heap.size with h1 | h1
  · exact h1
  · have := h.2; rw [Array.getElem?_eq_none h1] at this; cases this
theorem Arr.alloc {w : World} {m : Nat} {l : List Int} (h : Arr w m l) (o : Obj) : Arr (w.alloc o) m l := h.keep (Below.heap_alloc w o m h.lt)
theorem Arr.other {w : World} {m m' k : Nat} {v : Value} {l : List Int} (h : Arr w m l) (hne : m ≠ m') : Arr (w.setCell ⟨m', k, none⟩ v) m l := h.keep (Below.heap_setCell w _ v m hne)
theorem Arr.set_ {w : World} {m k : Nat} {l : List Int} (h : Arr w m l) (x : Int) : Arr (w.setCell ⟨m, k, none⟩ (.int .i64 x)) m (l.set k x) := by
  refine ⟨by rw [List.length_set]; exact h.1, ?_⟩
  simp only [World.setCell, Array.getElem?_modify, if_true, h.2]
  simp [List.map_set]

theorem Arr.got {w : World} {m k : Nat} {l : List Int} (h : Arr w m l) (hk : k < 8) (x : Int) : (w.setCell ⟨m, k, none⟩ (.int .i64 x)).cell? ⟨m, k, none⟩ = some (.int .i64 x) := by
  rw [(h.set_ x).cell hk, T_set (by rw [h.1]; exact hk), if_pos rfl]
theorem Arr.all {w : World} {m : Nat} {l : List Int} (h : Arr w m l) : w.cell? ⟨m, 0, none⟩ = some (.int .i64 (T l 0)) ∧ w.cell? ⟨m, 1, none⟩ = some (.int .i64 (T l 1)) ∧ w.cell? ⟨m, 2, none⟩ = some (.int .i64 (T l 2)) ∧ w.cell? ⟨m, 3, none⟩ = some (.int .i64 (T l 3)) ∧
    w.cell? ⟨m, 4, none⟩ = some (.int .i64 (T l 4)) ∧ w.cell? ⟨m, 5, none⟩ = some (.int .i64 (T l 5)) ∧ w.cell? ⟨m, 6, none⟩ = some (.int .i64 (T l 6)) ∧ w.cell? ⟨m, 7, none⟩ = some (.int .i64 (T l 7)) :=
  ⟨h.cell (by omega), h.cell (by omega), h.cell (by omega), h.cell (by omega), h.cell (by omega), h.cell (by omega), h.cell (by omega), h.cell (by omega)⟩

theorem below_al2 {w wr : World} {k : Nat} {v : Value} (h : Below w.heap.size w wr) : Below w.heap.size w (wr.setCell ⟨w.heap.size + 1 + 1, k, none⟩ v) := h.setCell (by show w.heap.size ≤ w.heap.size + 1 + 1; omega) _
/-- Where together stands. -/
def TgAt (w wr : World) (f g : Nat → Int) (p r : Nat) : Prop := Below w.heap.size w wr ∧ Arr wr (w.heap.size + 1) (lit8 g) ∧ Arr wr (w.heap.size + 1 + 1) (List.replicate 8 0) ∧ Arr wr (w.heap.size + 1 + 1 + 1) (tgTo f g p r)
theorem TgAt.skip {w wr : World} {f g : Nat → Int} {p r : Nat} (h : TgAt w wr f g p r) (hz : ¬ p &&& r = 0) : TgAt w wr f g p (r + 1) :=
  ⟨h.1, h.2.1, h.2.2.1, by rw [tgTo_next, tgStep_no _ hz]; exact h.2.2.2⟩
theorem TgAt.put {w wr : World} {f g : Nat → Int} {p r : Nat} {v : Int} (h : TgAt w wr f g p r) (hz : p &&& r = 0) (hv : v = max (T (tgTo f g p r) (p ||| r)) (f p + g r)) : TgAt w (wr.setCell ⟨w.heap.size + 1 + 1 + 1, p ||| r, none⟩ (.int .i64 v)) f g p (r + 1) :=
  ⟨h.1.setCell (by show w.heap.size ≤ w.heap.size + 1 + 1 + 1; omega) _, h.2.1.other (by omega), h.2.2.1.other (by omega), by rw [tgTo_next, tgStep_yes _ hz, ← hv]; exact h.2.2.2.set_ v⟩
theorem TgAt.row {w wr : World} {f g : Nat → Int} {p : Nat} (h : TgAt w wr f g p 8) : TgAt w wr f g (p + 1) 0 := by rw [TgAt, ← tgTo_row]; exact h

set_option maxHeartbeats 1600000 in
theorem together_any (f g : Nat → Int) (F G : Int) (hf : ∀ s, s < 8 → 0 ≤ f s ∧ f s ≤ F) (hg : ∀ s, s < 8 → 0 ≤ g s ∧ g s ≤ G) (hF : F + G ≤ 1048576) (w : World) :
    Calls Try.prog 149 #[ag8 f, ag8 g] w fun e w' => e = .returned (ag8 (T (tg f g))) ∧ Below w.heap.size w w' := by
  have HI := Lib.hid (fun (k : Nat) (hk : k < 8) => idx8 f hk)
  have HJ := Lib.hid (fun (k : Nat) (hk : k < 8) => idx8 g hk)
  have HF := Lib.hid hf
  have HG := Lib.hid hg
  have HBD := Lib.hid (fun (p r : Nat) (hp : p < 8) (hr : r ≤ 8) => tgTo_bd (M := 1048576) hf hg hF (p := p) (r := r) (by omega) hr (.inr hp))
  have HFG := Lib.hid hF
  have HS : Hid (TgAt w ((((w.alloc (.cells #[.int .i64 (f 0), .int .i64 (f 1), .int .i64 (f 2), .int .i64 (f 3), .int .i64 (f 4), .int .i64 (f 5), .int .i64 (f 6), .int .i64 (f 7)] 96)).alloc (.cells #[.int .i64 (g 0), .int .i64 (g 1), .int .i64 (g 2), .int .i64 (g 3), .int .i64 (g 4), .int .i64 (g 5), .int .i64 (g 6), .int .i64 (g 7)] 96)).alloc
      (.cells #[.int .i64 0, .int .i64 0, .int .i64 0, .int .i64 0, .int .i64 0, .int .i64 0, .int .i64 0, .int .i64 0] 96)).alloc (.cells #[.int .i64 0, .int .i64 0, .int .i64 0, .int .i64 0, .int .i64 0, .int .i64 0, .int .i64 0, .int .i64 0] 96)) f g 0 0) := by
    refine Lib.hid ⟨?_, ?_, ?_, ?_⟩
    · exact ((((Below.refl _ w).alloc (Nat.le_refl _) _).alloc (by simp) _).alloc (by simp; omega) _).alloc (by simp; omega) _
    · have h1 := Arr.new (w.alloc (.cells #[.int .i64 (f 0), .int .i64 (f 1), .int .i64 (f 2), .int .i64 (f 3), .int .i64 (f 4), .int .i64 (f 5), .int .i64 (f 6), .int .i64 (f 7)] 96)) (lit8 g) rfl
      rw [show (w.alloc (.cells #[.int .i64 (f 0), .int .i64 (f 1), .int .i64 (f 2), .int .i64 (f 3), .int .i64 (f 4), .int .i64 (f 5), .int .i64 (f 6), .int .i64 (f 7)] 96)).heap.size = w.heap.size + 1 by simp] at h1
      exact (h1.alloc _).alloc _
    · have h1 := Arr.new ((w.alloc (.cells #[.int .i64 (f 0), .int .i64 (f 1), .int .i64 (f 2), .int .i64 (f 3), .int .i64 (f 4), .int .i64 (f 5), .int .i64 (f 6), .int .i64 (f 7)] 96)).alloc (.cells #[.int .i64 (g 0), .int .i64 (g 1), .int .i64 (g 2), .int .i64 (g 3), .int .i64 (g 4), .int .i64 (g 5), .int .i64 (g 6), .int .i64 (g 7)] 96)) (List.replicate 8 0) rfl
      simp only [show ∀ (w : World) (o : Obj), (w.alloc o).heap.size = w.heap.size + 1 from fun w o => by simp] at h1
      exact h1.alloc _
    · have h1 := Arr.new (((w.alloc (.cells #[.int .i64 (f 0), .int .i64 (f 1), .int .i64 (f 2), .int .i64 (f 3), .int .i64 (f 4), .int .i64 (f 5), .int .i64 (f 6), .int .i64 (f 7)] 96)).alloc (.cells #[.int .i64 (g 0), .int .i64 (g 1), .int .i64 (g 2), .int .i64 (g 3), .int .i64 (g 4), .int .i64 (g 5), .int .i64 (g 6), .int .i64 (g 7)] 96)).alloc
        (.cells #[.int .i64 0, .int .i64 0, .int .i64 0, .int .i64 0, .int .i64 0, .int .i64 0, .int .i64 0, .int .i64 0] 96)) (List.replicate 8 0) rfl
      simp only [show ∀ (w : World) (o : Obj), (w.alloc o).heap.size = w.heap.size + 1 from fun w o => by simp] at h1
      rw [tgTo_start]
      exact h1
  clear hf hg hF
  obtain ⟨l, hl⟩ : ∃ l, l = tg f g := ⟨_, rfl⟩
  have HL := Lib.hid hl
  rw [← hl]
  clear hl
  unfold ag8
  go_enter Try.func149, Try.ntmps149
  go_wp2
  go_loopw [11] (fun i wr => ∃ k : Nat, k ≤ 8 ∧ i = .int .i64 (k : Int) ∧ Hid (TgAt w wr f g k 0)) (fun i _ => 8 - (intOf i).toNat)
  case atStart => exact ⟨0, by omega, rfl, HS⟩
  case round =>
    obtain ⟨k, hk, rfl, HA⟩ := hrel
    clear HS
    by_cases hlt : k < 8
    · have hk0 : (0 : Int) ≤ (k : Int) := by omega
      have hk8 : (k : Int) < 8 := by omega
      have hi := HI.out k hlt
      have HFk := Lib.hid (HF.out k hlt)
      obtain ⟨c0, c1, c2, c3, c4, c5, c6, c7⟩ := HA.out.2.1.all
      simp only [show T (lit8 g) 0 = g 0 from rfl, show T (lit8 g) 1 = g 1 from rfl, show T (lit8 g) 2 = g 2 from rfl, show T (lit8 g) 3 = g 3 from rfl, show T (lit8 g) 4 = g 4 from rfl, show T (lit8 g) 5 = g 5 from rfl, show T (lit8 g) 6 = g 6 from rfl, show T (lit8 g) 7 = g 7 from rfl] at c0 c1 c2 c3 c4 c5 c6 c7
      go_wp2
      clear hi c0 c1 c2 c3 c4 c5 c6 c7
      go_loopw [16] (fun i wr => ∃ j : Nat, j ≤ 8 ∧ i = .int .i64 (j : Int) ∧ Hid (TgAt w wr f g k j)) (fun i _ => 8 - (intOf i).toNat)
      case atStart => exact ⟨0, by omega, rfl, HA⟩
      case round =>
        clear HA
        obtain ⟨j, hj, rfl, HA⟩ := hrel
        by_cases hjl : j < 8
        · have hj0 : (0 : Int) ≤ (j : Int) := by omega
          have hj8 : (j : Int) < 8 := by omega
          have hi := HJ.out j hjl
          have ha := and_nat hlt hjl
          by_cases hz : k &&& j = 0
          · rw [hz] at ha
            have ho := or_nat hlt hjl
            have ho8 := or8 hlt hjl
            have hu := HA.out.2.2.2.cell ho8
            have hfr := HA.out.2.2.2.free (k ||| j)
            have hub := (HBD.out k j hlt hj).2 (k ||| j) ho8
            have hfb := HFk.out
            have hgb := HG.out j hjl
            have HP := Lib.hid (fun (v : Int) (hv : v = max (T (tgTo f g k j) (k ||| j)) (f k + g j)) => HA.out.put hz hv)
            have hFG := HFG.out
            have e1 : IntKind.i64.wrap (f k + g j) = f k + g j := IntWalk.i64_in _ (by omega)
            obtain ⟨u, hU⟩ : ∃ u, u = T (tgTo f g k j) (k ||| j) := ⟨_, rfl⟩
            obtain ⟨q, hq⟩ : ∃ q, q = k ||| j := ⟨_, rfl⟩
            rw [← hU] at hu HP
            rw [← hq] at hu ho hfr HP ho8
            have HQ := Lib.hid (HP.out (if u < f k + g j then f k + g j else u) (by split <;> omega))
            have hq0 : (0 : Int) ≤ (q : Int) := by omega
            have hq8 : (q : Int) < 8 := by omega
            clear hU hq hub hfb hgb hz HP hFG
            go_wp2
            go_roundw
            case rel => exact ⟨j + 1, by omega, by go_num, HQ⟩
            case measure => simp [intOf]; omega
          · have hnz : ¬ ((k &&& j : Nat) : Int) = 0 := by omega
            have HQ := Lib.hid (HA.out.skip hz)
            clear hz
            go_wp2
            go_roundw
            case rel => exact ⟨j + 1, by omega, by go_num, HQ⟩
            case measure => simp [intOf]; omega
        · obtain rfl : j = 8 := by omega
          have HQ := Lib.hid HA.out.row
          go_wp2
          go_roundw
          case rel => exact ⟨k + 1, by omega, by go_num, HQ⟩
          case measure => simp [intOf]; omega
    · obtain rfl : k = 8 := by omega
      obtain ⟨hb, _, hr, hbo⟩ := HA.out
      rw [tgTo_all, ← HL.out] at hbo
      obtain ⟨c0, c1, c2, c3, c4, c5, c6, c7⟩ := hbo.all
      have f0 := hr.free 0
      have f1 := hr.free 1
      have f2 := hr.free 2
      have f3 := hr.free 3
      have f4 := hr.free 4
      have f5 := hr.free 5
      have f6 := hr.free 6
      have f7 := hr.free 7
      obtain ⟨r0, r1, r2, r3, r4, r5, r6, r7⟩ := hr.all
      have a0 := hr.set_ (k := 0) (T l 0)
      have s0 : (wr.setCell ⟨w.heap.size + 1 + 1, 0, none⟩ (.int .i64 (T l 0))).cell? ⟨w.heap.size + 1 + 1, 0, none⟩ = some (.int .i64 (T l 0)) := hr.got (by omega) _
      have a1 := a0.set_ (k := 1) (T l 1)
      have s1 : ((wr.setCell ⟨w.heap.size + 1 + 1, 0, none⟩ (.int .i64 (T l 0))).setCell ⟨w.heap.size + 1 + 1, 1, none⟩ (.int .i64 (T l 1))).cell? ⟨w.heap.size + 1 + 1, 1, none⟩ = some (.int .i64 (T l 1)) := a0.got (by omega) _
      have a2 := a1.set_ (k := 2) (T l 2)
      have s2 : (((wr.setCell ⟨w.heap.size + 1 + 1, 0, none⟩ (.int .i64 (T l 0))).setCell ⟨w.heap.size + 1 + 1, 1, none⟩ (.int .i64 (T l 1))).setCell ⟨w.heap.size + 1 + 1, 2, none⟩ (.int .i64 (T l 2))).cell? ⟨w.heap.size + 1 + 1, 2, none⟩ = some (.int .i64 (T l 2)) := a1.got (by omega) _
      have a3 := a2.set_ (k := 3) (T l 3)
      have s3 : ((((wr.setCell ⟨w.heap.size + 1 + 1, 0, none⟩ (.int .i64 (T l 0))).setCell ⟨w.heap.size + 1 + 1, 1, none⟩ (.int .i64 (T l 1))).setCell ⟨w.heap.size + 1 + 1, 2, none⟩ (.int .i64 (T l 2))).setCell ⟨w.heap.size + 1 + 1, 3, none⟩ (.int .i64 (T l 3))).cell? ⟨w.heap.size + 1 + 1, 3, none⟩ = some (.int .i64 (T l 3)) := a2.got (by omega) _
      have a4 := a3.set_ (k := 4) (T l 4)
      have s4 : (((((wr.setCell ⟨w.heap.size + 1 + 1, 0, none⟩ (.int .i64 (T l 0))).setCell ⟨w.heap.size + 1 + 1, 1, none⟩ (.int .i64 (T l 1))).setCell ⟨w.heap.size + 1 + 1, 2, none⟩ (.int .i64 (T l 2))).setCell ⟨w.heap.size + 1 + 1, 3, none⟩ (.int .i64 (T l 3))).setCell ⟨w.heap.size + 1 + 1, 4, none⟩ (.int .i64 (T l 4))).cell? ⟨w.heap.size + 1 + 1, 4, none⟩ = some (.int .i64 (T l 4)) := a3.got (by omega) _
      have a5 := a4.set_ (k := 5) (T l 5)
      have s5 : ((((((wr.setCell ⟨w.heap.size + 1 + 1, 0, none⟩ (.int .i64 (T l 0))).setCell ⟨w.heap.size + 1 + 1, 1, none⟩ (.int .i64 (T l 1))).setCell ⟨w.heap.size + 1 + 1, 2, none⟩ (.int .i64 (T l 2))).setCell ⟨w.heap.size + 1 + 1, 3, none⟩ (.int .i64 (T l 3))).setCell ⟨w.heap.size + 1 + 1, 4, none⟩ (.int .i64 (T l 4))).setCell ⟨w.heap.size + 1 + 1, 5, none⟩ (.int .i64 (T l 5))).cell? ⟨w.heap.size + 1 + 1, 5, none⟩ = some (.int .i64 (T l 5)) := a4.got (by omega) _
      have a6 := a5.set_ (k := 6) (T l 6)
      have s6 : (((((((wr.setCell ⟨w.heap.size + 1 + 1, 0, none⟩ (.int .i64 (T l 0))).setCell ⟨w.heap.size + 1 + 1, 1, none⟩ (.int .i64 (T l 1))).setCell ⟨w.heap.size + 1 + 1, 2, none⟩ (.int .i64 (T l 2))).setCell ⟨w.heap.size + 1 + 1, 3, none⟩ (.int .i64 (T l 3))).setCell ⟨w.heap.size + 1 + 1, 4, none⟩ (.int .i64 (T l 4))).setCell ⟨w.heap.size + 1 + 1, 5, none⟩ (.int .i64 (T l 5))).setCell ⟨w.heap.size + 1 + 1, 6, none⟩ (.int .i64 (T l 6))).cell? ⟨w.heap.size + 1 + 1, 6, none⟩ = some (.int .i64 (T l 6)) := a5.got (by omega) _
      have a7 := a6.set_ (k := 7) (T l 7)
      have s7 : ((((((((wr.setCell ⟨w.heap.size + 1 + 1, 0, none⟩ (.int .i64 (T l 0))).setCell ⟨w.heap.size + 1 + 1, 1, none⟩ (.int .i64 (T l 1))).setCell ⟨w.heap.size + 1 + 1, 2, none⟩ (.int .i64 (T l 2))).setCell ⟨w.heap.size + 1 + 1, 3, none⟩ (.int .i64 (T l 3))).setCell ⟨w.heap.size + 1 + 1, 4, none⟩ (.int .i64 (T l 4))).setCell ⟨w.heap.size + 1 + 1, 5, none⟩ (.int .i64 (T l 5))).setCell ⟨w.heap.size + 1 + 1, 6, none⟩ (.int .i64 (T l 6))).setCell ⟨w.heap.size + 1 + 1, 7, none⟩ (.int .i64 (T l 7))).cell? ⟨w.heap.size + 1 + 1, 7, none⟩ = some (.int .i64 (T l 7)) := a6.got (by omega) _
      have HB : Hid (Below w.heap.size w ((((((((wr.setCell ⟨w.heap.size + 1 + 1, 0, none⟩ (.int .i64 (T l 0))).setCell ⟨w.heap.size + 1 + 1, 1, none⟩ (.int .i64 (T l 1))).setCell ⟨w.heap.size + 1 + 1, 2, none⟩ (.int .i64 (T l 2))).setCell ⟨w.heap.size + 1 + 1, 3, none⟩ (.int .i64 (T l 3))).setCell ⟨w.heap.size + 1 + 1, 4, none⟩ (.int .i64 (T l 4))).setCell ⟨w.heap.size + 1 + 1, 5, none⟩ (.int .i64 (T l 5))).setCell ⟨w.heap.size + 1 + 1, 6, none⟩ (.int .i64 (T l 6))).setCell ⟨w.heap.size + 1 + 1, 7, none⟩ (.int .i64 (T l 7)))) := Lib.hid (below_al2 (below_al2 (below_al2 (below_al2 (below_al2 (below_al2 (below_al2 (below_al2 (hb)))))))))
      clear a0 a1 a2 a3 a4 a5 a6 a7 hr hbo
      go_wp2
      refine bodyPost_ret (by simp [results, Try.results149, go_sem, s0, s1, s2, s3, s4, s5, s6, s7]; try rfl) rfl ?_
      exact ⟨rfl, HB.out⟩

end Go.Proofs.Ytpildecpabeanaa
