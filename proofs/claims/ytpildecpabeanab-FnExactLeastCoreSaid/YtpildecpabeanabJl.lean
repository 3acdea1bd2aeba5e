/-
  Chapter 6: the program's SurplusAt and DemandAt.
-/
import Derived.Test.YtpildecpabeanabJk
import Derived.Test.YtpildecpabeanabWk
import Derived.Deep.RegionLaw
namespace Go.Proofs.Ytpildecpabeanab
open Go.RowKit

/-- What is left of each set. -/
def lfL (t p : List Int) : List Int := lit8 (lf t p)
theorem lfL_max {t p : List Int} (h : T t 0 = 0) : (lfL t p).foldl max 0 = su t p := by
  have h0 := lf_zero (p := p) h
  simp [lfL, lit8, su, suTo]
theorem Rd.three {w : World} {b off c : Nat} {p : List Int} (h : Rd w (some ⟨b, off, none⟩) c p) (hl : p.length = 3) : w.cell? ⟨b, off, none⟩ = some (.int .i64 (T p 0)) ∧ w.cell? ⟨b, off + 1, none⟩ = some (.int .i64 (T p 1)) ∧ w.cell? ⟨b, off + 2, none⟩ = some (.int .i64 (T p 2)) := by
  have : ∀ k, k < 3 → w.cell? ⟨b, off + k, none⟩ = some (.int .i64 (T p k)) := fun k hk => by
    obtain ⟨b', off', x, hA, _, hx, hc⟩ := h.at_ (k := k) (by omega)
    cases hA
    rw [hc, T_of hx.out]
  exact ⟨this 0 (by omega), this 1 (by omega), this 2 (by omega)⟩
theorem Rd.some3 {w : World} {A : Option Addr} {c : Nat} {t : List Int} (h : Rd w A c t) (hl : t.length = 3) : ∃ b off, A = some ⟨b, off, none⟩ := by
  obtain ⟨b, off, _, hA, _⟩ := h.at_ (k := 0) (by omega)
  exact ⟨b, off, hA⟩

/-- A region that draws its order, all ways of which end alike, but for a block and what lies in it. -/
theorem wp_alike {P : Program} {c : Code} {K : Act → World → Prop} {Q : Exit → Act → World → Prop} {a : Act} {w : World} (a0 : Nat → Act) (R : Nat → World → Prop) (h : ∀ K1 : Act → World → Prop, (∀ M w', R M w' → K1 (a0 M) w') → c.wp P (Exit.then K1 Q) a w) (hk : ∀ M w', R M w' → K (a0 M) w') : c.wp P (Exit.then K Q) a w := h K hk
theorem exit_normal {K : Act → World → Prop} {Q : Exit → Act → World → Prop} {a : Act} {w : World} (h : K a w) : Exit.then K Q Exit.normal a w := h
/-- A block of the call's own holds the table l. -/
def PutAt (w0 : World) (l : List Int) (M : Nat) (w' : World) : Prop := w0.heap.size ≤ M ∧ Below w0.heap.size w0 w' ∧ Arr w' M l
theorem put8 {w0 w : World} {M : Nat} {L : List Int} (hb : Below w0.heap.size w0 w) (hA : Arr w M L) (hM : w0.heap.size ≤ M) (f : Nat → Int) :
    PutAt w0 (lit8 f) M ((((((((w.setCell ⟨M, 0, none⟩ (.int .i64 (f 0))).setCell ⟨M, 1, none⟩ (.int .i64 (f 1))).setCell ⟨M, 2, none⟩ (.int .i64 (f 2))).setCell ⟨M, 3, none⟩ (.int .i64 (f 3))).setCell ⟨M, 4, none⟩ (.int .i64 (f 4))).setCell ⟨M, 5, none⟩ (.int .i64 (f 5))).setCell ⟨M, 6, none⟩ (.int .i64 (f 6))).setCell ⟨M, 7, none⟩ (.int .i64 (f 7))) := by
  refine ⟨hM, ?_, ?_⟩
  · exact (((((((hb.setCell hM _).setCell hM _).setCell hM _).setCell hM _).setCell hM _).setCell hM _).setCell hM _).setCell hM _
  · have h9 := (((((((hA.set_ (k := 0) (f 0)).set_ (k := 1) (f 1)).set_ (k := 2) (f 2)).set_ (k := 3) (f 3)).set_ (k := 4) (f 4)).set_ (k := 5) (f 5)).set_ (k := 6) (f 6)).set_ (k := 7) (f 7)
    rw [set8 hA.1] at h9
    exact h9
theorem put_new {w0 w : World} (hb : Below w0.heap.size w0 w) (f : Nat → Int) :
    PutAt w0 (lit8 f) w.heap.size (w.alloc (.cells #[.int .i64 (f 0), .int .i64 (f 1), .int .i64 (f 2), .int .i64 (f 3), .int .i64 (f 4), .int .i64 (f 5), .int .i64 (f 6), .int .i64 (f 7)] 107)) :=
  ⟨hb.size, hb.alloc hb.size _, Arr.new w (lit8 f) rfl⟩
theorem Arr.rd {w : World} {M : Nat} {l : List Int} (h : Arr w M l) (c : Nat) : Rd w (some ⟨M, 0, none⟩) c l := .inr ⟨M, 0, rfl, fun k hk => by
  have := h.cell (k := k) (by rw [h.1] at hk; exact hk)
  rw [Nat.zero_add, this]
  congr 1⟩

set_option maxHeartbeats 400000 in
theorem MaxFrom_any (A : Option Addr) (c n : Nat) (xs : List Int) (w : World) (hn : xs.length = n) (h : Rd w A c xs) (h1 : 1 ≤ n) (hl : n ≤ 1048576) (h0 : 0 ≤ T xs 0) :
    Calls Try.prog 61 #[.slice A n c] w fun e w' => e = .returned (.int .i64 (xs.foldl max 0)) ∧ w = w' := by
  subst hn
  obtain ⟨b, off, x0, rfl, _, hx0, hc0⟩ := h.at_ (k := 0) (by omega)
  rw [Nat.add_zero] at hc0
  have hx00 : 0 ≤ x0 := by rw [← T_of hx0.out]; exact h0
  have HX0 : Hid ((xs.take 1).foldl max 0 = x0) := Lib.hid (by rw [show (1 : Nat) = 0 + 1 from rfl, mxl_step hx0.out]; simp; omega)
  have hl1 : decide ((xs.length : Int) < 1) = false := by simp; omega
  clear hx0 hx00 h0
  go_enter Try.func61, Try.ntmps61
  go_wp2
  go_loop [3, 4] (fun m i => ∃ k : Nat, 1 ≤ k ∧ k ≤ xs.length ∧ i = .int .i64 k ∧ ∃ v, m = .int .i64 v ∧ Hid (v = (xs.take k).foldl max 0)) (fun _ i => xs.length - (intOf i).toNat)
  case atStart => exact ⟨1, Nat.le_refl _, h1, rfl, x0, rfl, Lib.hid HX0.out.symm⟩
  case round =>
    obtain ⟨k, hk1, hk, rfl, v, rfl, HV⟩ := hrel
    by_cases hlt : k < xs.length
    · obtain ⟨b2, off2, x, hA, _, hx, hc⟩ := h.at_ hlt
      cases hA
      have HV' : Hid ((if v < x then x else v) = (xs.take (k + 1)).foldl max 0) := Lib.hid (by rw [mxl_step hx.out, ← HV.out]; split <;> omega)
      clear hx
      go_wp2
      go_round
      case rel => exact ⟨k + 1, by omega, by omega, by go_num, _, rfl, HV'⟩
      case measure => simp [intOf]; omega
    · obtain rfl : k = xs.length := by omega
      have HE : Hid (v = xs.foldl max 0) := Lib.hid (by rw [HV.out, List.take_length])
      go_wp2
      go_ret
      exact ⟨by rw [HE.out]; rfl, rfl⟩

end Go.Proofs.Ytpildecpabeanab
