/-
  Chapter 6: the program's SurplusAt and DemandAt.
-/
import Derived.Test.YtccbjgajmjcpjabG31
import Derived.Test.YtccbjgajmjcpjabG26
import Derived.Deep.RegionLaw
import Derived.Test.YtccbjgajmjcpjabG21
import Derived.Test.YtccbjgajmjcpjabG04
import Derived.Test.YtccbjgajmjcpjabG30
import Derived.Test.YtccbjgajmjcpjabG25
namespace Go.Proofs.Ytccbjgajmjcpjab
open Go.RowKit

/-- What is left of each set. -/
def lfL (t p : List Int) : List Int := lit8 (lf t p)
theorem lfL_max {t p : List Int} (h : T t 0 = 0) : (lfL t p).foldl max 0 = su t p := by
  have h0 := lf_zero (p := p) h
  simp [lfL, lit8, su, suTo]
theorem arr3_ptr (b off c : Nat) (w : World) : (Instr.arrayAt 68 (.slice (some ⟨b, off, none⟩) 3 c)).run Try.prog w = .ok (.pointer (some ⟨b, off, none⟩)) w := by kernel_rfl
theorem Rd.three {w : World} {b off c : Nat} {p : List Int} (h : Rd w (some ⟨b, off, none⟩) c p) (hl : p.length = 3) : w.cell? ⟨b, off, none⟩ = some (.int .i64 (T p 0)) ∧ w.cell? ⟨b, off + 1, none⟩ = some (.int .i64 (T p 1)) ∧ w.cell? ⟨b, off + 2, none⟩ = some (.int .i64 (T p 2)) := by
  have : ∀ k, k < 3 → w.cell? ⟨b, off + k, none⟩ = some (.int .i64 (T p k)) := fun k hk => by
    obtain ⟨b', off', x, hA, _, hx, hc⟩ := h.at_ (k := k) (by omega)
    cases hA
    rw [hc, T_of hx.out]
  exact ⟨this 0 (by omega), this 1 (by omega), this 2 (by omega)⟩
theorem Rd.some3 {w : World} {A : Option Addr} {c : Nat} {t : List Int} (h : Rd w A c t) (hl : t.length = 3) : ∃ b off, A = some ⟨b, off, none⟩ := by
  obtain ⟨b, off, _, hA, _⟩ := h.at_ (k := 0) (by omega)
  exact ⟨b, off, hA⟩

/-- A region that draws its order, all ways of which end alike, but for a block and what lies in it. -/
theorem wp_alike {P : Program} {c : Code} {K : Act → World → Prop} {Q : Exit → Act → World → Prop} {a : Act} {w : World} (a0 : Nat → Act) (R : Nat → World → Prop) (h : ∀ K1 : Act → World → Prop, (∀ M w', R M w' → K1 (a0 M) w') → c.wp P (Exit.then K1 Q) a w) (hk : ∀ M w', R M w' → K (a0 M) w') : c.wp P (Exit.then K Q) a w := h K hk
theorem exit_normal {K : Act → World → Prop} {Q : Exit → Act → World → Prop} {a : Act} {w : World} (h : K a w) : Exit.then K Q Exit.normal a w := h
/-- A block of the call's own holds the table l. -/
def PutAt (w0 : World) (l : List Int) (M : Nat) (w' : World) : Prop := w0.heap.size ≤ M ∧ Below w0.heap.size w0 w' ∧ Arr w' M l
theorem put8 {w0 w : World} {M : Nat} {L : List Int} (hb : Below w0.heap.size w0 w) (hA : Arr w M L) (hM : w0.heap.size ≤ M) (f : Nat → Int) :
    PutAt w0 (lit8 f) M ((((((((w.setCell ⟨M, 0, none⟩ (.int .i64 (f 0))).setCell ⟨M, 1, none⟩ (.int .i64 (f 1))).setCell ⟨M, 2, none⟩ (.int .i64 (f 2))).setCell ⟨M, 3, none⟩ (.int .i64 (f 3))).setCell ⟨M, 4, none⟩ (.int .i64 (f 4))).setCell ⟨M, 5, none⟩ (.int .i64 (f 5))).setCell ⟨M, 6, none⟩ (.int .i64 (f 6))).setCell ⟨M, 7, none⟩ (.int .i64 (f 7))) := by
  refine ⟨hM, ?_, ?_⟩
  · exact (((((((hb.setCell hM _).setCell hM _).setCell hM _).setCell hM _).setCell hM _).setCell hM _).setCell hM _).setCell hM _
  · have h9 := (((((((hA.set_ (k := 0) (f 0)).set_ (k := 1) (f 1)).set_ (k := 2) (f 2)).set_ (k := 3) (f 3)).set_ (k := 4) (f 4)).set_ (k := 5) (f 5)).set_ (k := 6) (f 6)).set_ (k := 7) (f 7)
    rw [set8 hA.1] at h9
    exact h9
theorem put_new {w0 w : World} (hb : Below w0.heap.size w0 w) (f : Nat → Int) :
    PutAt w0 (lit8 f) w.heap.size (w.alloc (.cells #[.int .i64 (f 0), .int .i64 (f 1), .int .i64 (f 2), .int .i64 (f 3), .int .i64 (f 4), .int .i64 (f 5), .int .i64 (f 6), .int .i64 (f 7)] 63)) :=
  ⟨hb.size, hb.alloc hb.size _, Arr.new w (lit8 f) rfl⟩
theorem Arr.rd {w : World} {M : Nat} {l : List Int} (h : Arr w M l) (c : Nat) : Rd w (some ⟨M, 0, none⟩) c l := .inr ⟨M, 0, rfl, fun k hk => by
  have := h.cell (k := k) (by rw [h.1] at hk; exact hk)
  rw [Nat.zero_add, this]
  congr 1⟩

set_option maxHeartbeats 400000 in
theorem MaxFrom_any (A : Option Addr) (c n : Nat) (xs : List Int) (w : World) (hn : xs.length = n) (h : Rd w A c xs) (h1 : 1 ≤ n) (hl : n ≤ 1048576) (h0 : 0 ≤ T xs 0) :
    Calls Try.prog 74 #[.slice A n c] w fun e w' => e = .returned (.int .i64 (xs.foldl max 0)) ∧ w = w' := by
  subst hn
  obtain ⟨b, off, x0, rfl, _, hx0, hc0⟩ := h.at_ (k := 0) (by omega)
  rw [Nat.add_zero] at hc0
  have hx00 : 0 ≤ x0 := by rw [← T_of hx0.out]; exact h0
  have HX0 : Hid ((xs.take 1).foldl max 0 = x0) := Lib.hid (by rw [show (1 : Nat) = 0 + 1 from rfl, mxl_step hx0.out]; simp; omega)
  have hl1 : decide ((xs.length : Int) < 1) = false := by simp; omega
  clear hx0 hx00 h0
  go_enter Try.func74, Try.ntmps74
  go_wp2
  go_loop [3, 4] (fun m i => ∃ k : Nat, 1 ≤ k ∧ k ≤ xs.length ∧ i = .int .i64 k ∧ ∃ v, m = .int .i64 v ∧ Hid (v = (xs.take k).foldl max 0)) (fun _ i => xs.length - (intOf i).toNat)
  case atStart => exact ⟨1, Nat.le_refl _, h1, rfl, x0, rfl, Lib.hid HX0.out.symm⟩
  case round =>
    obtain ⟨k, hk1, hk, rfl, v, rfl, HV⟩ := hrel
    by_cases hlt : k < xs.length
    · obtain ⟨b2, off2, x, hA, _, hx, hc⟩ := h.at_ hlt
      cases hA
      have HV' : Hid ((if v < x then x else v) = (xs.take (k + 1)).foldl max 0) := Lib.hid (by rw [mxl_step hx.out, ← HV.out]; split <;> omega)
      clear hx
      go_wp2
      go_round
      case rel => exact ⟨k + 1, by omega, by omega, by go_num, _, rfl, HV'⟩
      case measure => simp [intOf]; omega
    · obtain rfl : k = xs.length := by omega
      have HE : Hid (v = xs.foldl max 0) := Lib.hid (by rw [HV.out, List.take_length])
      go_wp2
      go_ret
      exact ⟨by rw [HE.out]; rfl, rfl⟩

set_option maxRecDepth 100000 in
set_option maxHeartbeats 800000 in
theorem surplusOf_any (t p : List Int) (w : World) (hvt : VT t) (hvp : VP p) :
    Calls Try.prog 156 #[ag8 (T t), ag3 p] w fun e w' => e = .returned (.int .i64 (su t p)) ∧ Below w.heap.size w w' := by
  have HL0 := fun w1 => leftAt_any t p w1 hvt hvp
  unfold ag8 ag3 at HL0
  unfold ag8 ag3
  have HL := Lib.hid HL0
  clear HL0
  have HM := Lib.hid (lfL_max (p := p) hvt.2.1)
  have HZ : Hid (0 ≤ T (lfL t p) 0) := Lib.hid (by show 0 ≤ lf t p 0; rw [lf_zero hvt.2.1]; omega)
  clear hvt hvp
  go_enter Try.func156, Try.ntmps156
  go_wp2_with fail
  have hb1 : Below w.heap.size w ((w.alloc (.cells #[.int .i64 (T t 0), .int .i64 (T t 1), .int .i64 (T t 2), .int .i64 (T t 3), .int .i64 (T t 4), .int .i64 (T t 5), .int .i64 (T t 6), .int .i64 (T t 7)] 63)).alloc (.cells #[.int .i64 (T p 0), .int .i64 (T p 1), .int .i64 (T p 2)] 68)) := ((Below.refl _ w).alloc (Nat.le_refl _) _).alloc (by simp) _
  refine (HL.out _).mono ?_
  rintro e w2 ⟨rfl, hb2⟩
  have hB2 := below_then hb1 hb2
  obtain ⟨_, hB3, hA3⟩ := put_new hB2 (lf t p)
  have HX := Lib.hid (MaxFrom_any (some ⟨w2.heap.size, 0, none⟩) 8 8 (lfL t p) _ rfl (hA3.rd 8) (by omega) (by omega) HZ.out)
  rw [HM.out] at HX
  go_wp2_with fail
  refine HX.out.mono ?_
  rintro e w3 ⟨rfl, rfl⟩
  go_wp2
  go_ret
  exact ⟨rfl, hB3⟩

end Go.Proofs.Ytccbjgajmjcpjab

/-
  Chapter 6: the program's JoinTables.
-/
namespace Go.Proofs.Ytccbjgajmjcpjab
open Go.RowKit

/-- What is handed back for the joined table l. -/
def JtIs (w : World) (l : List Int) (e : Ending) (w' : World) : Prop := Below w.heap.size w w' ∧ ((vt l = true ∧ ∃ M, e = .returned (.slice (some ⟨M, 0, none⟩) 8 8) ∧ w.heap.size ≤ M ∧ Arr w' M l) ∨ (vt l = false ∧ e = .returned (.slice none 0 0)))
end Go.Proofs.Ytccbjgajmjcpjab

/-
  Chapter 6: JoinTables: both sides at whatever arguments; a table of one's own that is marked.
-/
namespace Go.Proofs.Ytccbjgajmjcpjab
open Go.RowKit

theorem grown_set (w : World) (M j : Nat) (v : Value) : w.grownBy (w.setCell ⟨M, j, none⟩ v) (some M) :=
  ⟨rfl, rfl, rfl, by simp [World.setCell], fun i _ hne => Below.heap_setCell w ⟨M, j, none⟩ v i (fun e => hne (by show some i = some M; rw [e]))⟩

set_option maxHeartbeats 400000 in
theorem markArr_any (M : Nat) (xs : List Int) (k : Int) (w : World) (h : Arr w M xs) (hk0 : 0 ≤ k) (hk1 : k ≤ 1099511627776) :
    Calls Try.prog 48 #[.slice (some ⟨M, 0, none⟩) xs.length 8, .int .i64 k] w fun e w' => e = .returned (.int .i64 (k + xs.length)) ∧ Arr w' M (upF k xs.length) ∧ w.grownBy w' (some M) := by
  have h8 := h.1
  go_enter Try.func48, Try.ntmps48
  go_wp2
  go_loopw [1, 5] (fun q i wr => ∃ j : Nat, j ≤ xs.length ∧ i = .int .i64 j ∧ q = .int .i64 (k + j) ∧ Hid (Arr wr M (markd k xs j) ∧ w.grownBy wr (some M)))
    (fun _ i _ => xs.length - (intOf i).toNat)
  case atStart => exact ⟨0, Nat.zero_le _, rfl, by simp, Lib.hid ⟨by rw [markd_zero]; exact h, World.grownBy.refl _ _⟩⟩
  case round =>
    obtain ⟨j, hj, rfl, rfl, HO⟩ := hrel
    by_cases hlt : j < xs.length
    · have hz := HO.out.1
      have hc := hz.cell (k := j) (by omega)
      have hf := hz.free j
      obtain ⟨x, hx⟩ : ∃ x, x = T (markd k xs j) j := ⟨_, rfl⟩
      rw [← hx] at hc
      have HS : Hid (Arr (wr.setCell ⟨M, j, none⟩ (.int .i64 (k + j))) M (markd k xs (j + 1)) ∧ w.grownBy (wr.setCell ⟨M, j, none⟩ (.int .i64 (k + j))) (some M)) := Lib.hid (by
        have h1 := hz.set_ (k := j) (k + j)
        rw [markd_set k xs j hlt] at h1
        exact ⟨h1, HO.out.2.trans (grown_set wr M j _)⟩)
      have hl8 : xs.length ≤ 8 := by omega
      clear hz hx h h8
      go_wp2
      go_roundw
      case rel => exact ⟨j + 1, by omega, by go_num, by go_num, HS⟩
      case measure => simp [intOf]; omega
    · obtain rfl : j = xs.length := by omega
      go_wp2
      go_ret
      exact ⟨rfl, by rw [← markd_all]; exact HO.out.1, HO.out.2⟩

/-- A slice of the call's own, or a table of its own that is sliced. -/
def Own2 (w : World) (B : Nat) (A : Option Addr) (c : Nat) (zs : List Int) : Prop := Own w B A c zs ∨ ∃ M, A = some ⟨M, 0, none⟩ ∧ c = 8 ∧ B ≤ M ∧ Arr w M zs
theorem Own2.rd {w : World} {B : Nat} {A : Option Addr} {c : Nat} {zs : List Int} (h : Own2 w B A c zs) : Rd w A c zs := by
  rcases h with h | ⟨M, rfl, rfl, _, h⟩
  · exact h.rd
  · exact h.rd 8
theorem Own2.below {w w' : World} {B : Nat} {A : Option Addr} {c : Nat} {zs : List Int} (h : Own2 w B A c zs) (hb : Below w.heap.size w w') : Own2 w' B A c zs := by
  rcases h with h | ⟨M, rfl, rfl, hB, h⟩
  · exact .inl (h.below hb)
  · exact .inr ⟨M, rfl, rfl, hB, h.keep (hb.block _ h.lt)⟩
theorem Own2.drewN {w : World} {B : Nat} {A : Option Addr} {c : Nat} {zs : List Int} (h : Own2 w B A c zs) (n : Nat) : Own2 (w.drewN n) B A c zs := h
theorem Own2.base {w : World} {B B' : Nat} {A : Option Addr} {c : Nat} {zs : List Int} (h : Own2 w B A c zs) (hB : B' ≤ B) : Own2 w B' A c zs := by
  rcases h with h | ⟨M, rfl, rfl, hM, h⟩
  · exact .inl (h.base hB)
  · exact .inr ⟨M, rfl, rfl, Nat.le_trans hB hM, h⟩
theorem Own2.blk {w : World} {B k : Nat} {A : Option Addr} {c : Nat} {xs : List Int} (h : Own2 w B A c xs) (hk : ofA A = some k) : B ≤ k ∧ k < w.heap.size := by
  rcases h with h | ⟨M, rfl, rfl, hM, h⟩
  · exact own_blk h hk
  · obtain rfl : M = k := by simpa [ofA] using hk
    exact ⟨hM, h.lt⟩
theorem Own2.apart {wa wb : World} {B1 B2 : Nat} {A1 A2 : Option Addr} {c1 c2 : Nat} {xs ys : List Int} (h1 : Own2 wa B1 A1 c1 xs) (h2 : Own2 wb B2 A2 c2 ys) (hlt : wa.heap.size ≤ B2) : (ofA A1 = none ∨ ofA A1 ≠ ofA A2) ∧ (ofA A2 = none ∨ ofA A2 ≠ ofA A1) := by
  have e : ∀ k, ofA A1 = some k → ofA A2 = some k → False := fun _ hk1 hk2 => by
    have l1 := (h1.blk hk1).2
    have l2 := (h2.blk hk2).1
    omega
  constructor
  · rcases hA : ofA A1 with _ | k
    · exact .inl rfl
    · exact .inr (fun hh => e k hA hh.symm)
  · rcases hA : ofA A2 with _ | k
    · exact .inl rfl
    · exact .inr (fun hh => e k hh.symm hA)
theorem Own2.kept_ {w w' : World} {B : Nat} {A A2 : Option Addr} {c : Nat} {xs : List Int} (h : Own2 w B A c xs) (hg : w.grownBy w' (ofA A2)) (hne : ofA A = none ∨ ofA A ≠ ofA A2) : Own2 w' B A c xs := by
  rcases h with h | ⟨M, rfl, rfl, hM, h⟩
  · exact .inl (Own.kept_ h hg hne)
  · exact .inr ⟨M, rfl, rfl, hM, h.keep (hg.block _ h.lt (fun e => by
      rcases hne with h1 | h1
      · cases h1
      · exact h1 e))⟩
theorem Own2.grownBelow0 {w w' wa : World} {B : Nat} {A0 : Option Addr} {c0 : Nat} {xs : List Int} (hb : Below B wa w) (ho : Own2 w B A0 c0 xs) (hs : B ≤ w.heap.size) (hg : w.grownBy w' (ofA A0)) : Below B wa w' :=
  hb.grown hg hs (fun _ hk => (ho.blk hk).1)
theorem markIntS2_any (A : Option Addr) (c : Nat) (xs : List Int) (k : Int) (B : Nat) (w : World) (h : Own2 w B A c xs) (hl : xs.length ≤ 1099511627776) (hk0 : 0 ≤ k) (hk1 : k ≤ 1099511627776) :
    Calls Try.prog 48 #[.slice A xs.length c, .int .i64 k] w fun e w' => e = .returned (.int .i64 (k + xs.length)) ∧ Own2 w' B A c (upF k xs.length) ∧ w.grownBy w' (ofA A) := by
  rcases h with h | ⟨M, rfl, rfl, hM, h⟩
  · exact (markIntS_any A c xs k B w h hl hk0 hk1).mono fun e w' ⟨h1, h2, h3⟩ => ⟨h1, .inl h2, h3⟩
  · exact (markArr_any M xs k w h hk0 hk1).mono fun e w' ⟨h1, h2, h3⟩ => ⟨h1, .inr ⟨M, rfl, rfl, hM, h2⟩, h3⟩
def Own2Is (w : World) (zs : List Int) (e : Ending) (w' : World) : Prop := ∃ A c, e = .returned (.slice A zs.length c) ∧ Own2 w' w.heap.size A c zs ∧ Below w.heap.size w w'

theorem sv_one {t : List Int} (h : VT t) {x : Nat} (hx : x < 8) : sv [t] x = T t x := by
  have a := h.all
  obtain ⟨e0, e1, e2, e3, e4, e5, e6, e7⟩ := subs_vals
  apply Int.le_antisymm
  · refine mx_le (h.bd hx).1 (fun s hs => ?_)
    simp only [sv]
    rcases nat8 hx with rfl | rfl | rfl | rfl | rfl | rfl | rfl | rfl
    · rw [e0] at hs; simp at hs; subst hs; omega
    · rw [e1] at hs; simp at hs; rcases hs with rfl | rfl <;> omega
    · rw [e2] at hs; simp at hs; rcases hs with rfl | rfl <;> omega
    · rw [e3] at hs; simp at hs; rcases hs with rfl | rfl | rfl | rfl <;> omega
    · rw [e4] at hs; simp at hs; rcases hs with rfl | rfl <;> omega
    · rw [e5] at hs; simp at hs; rcases hs with rfl | rfl | rfl | rfl <;> omega
    · rw [e6] at hs; simp at hs; rcases hs with rfl | rfl | rfl | rfl <;> omega
    · rw [e7] at hs; simp at hs; rcases hs with rfl | rfl | rfl | rfl | rfl | rfl | rfl | rfl <;> omega
  · have h1 := le_mx (f := fun s => T t s + sv [] (x - s)) (sub_self hx)
    simp only [sv] at h1 ⊢
    omega
theorem jnT_tg {a b : List Int} (_ha : VT a) (hb : VT b) : jnT a b = tg (T a) (T b) := ext8 (jnT_len a b) (tg_len _ _) (fun x hx => by
  rw [T_of (jnT_at a b hx), tg_at _ _ hx]
  exact mx_congr (fun s hs => by rw [sv_one hb (by omega)]))
/-- What JoinTables hands back. -/
noncomputable def joF (a b : List Int) : List Int := @ite _ (VT a ∧ VT b ∧ VT (jnT a b)) (Classical.propDecidable _) (jnT a b) []
theorem joF_yes {a b : List Int} (h : VT a ∧ VT b ∧ VT (jnT a b)) : joF a b = jnT a b := by unfold joF; rw [if_pos h]
theorem joF_no {a b : List Int} (h : ¬ (VT a ∧ VT b ∧ VT (jnT a b))) : joF a b = [] := by unfold joF; rw [if_neg h]
theorem joF_len (a b : List Int) : (joF a b).length ≤ 8 := by
  by_cases h : VT a ∧ VT b ∧ VT (jnT a b)
  · rw [joF_yes h, jnT_len]; omega
  · rw [joF_no h]; simp

theorem SJoinTables_own (A B : Option Addr) (c d : Nat) (a b : List Int) (w : World) (h : Rd w A c a) (g : Rd w B d b) (hc : a.length ≤ c) (hd : b.length ≤ d) (ha : a.length ≤ 1099511627776) (hb : b.length ≤ 1099511627776) :
    Calls Try.prog 137 #[.slice A a.length c, .slice B b.length d] w (OwnIs w (joF a b)) :=
  (SJoinTables_any A B c d a b w h g hc hd ha hb).mono fun e w' ⟨hbl, hr⟩ => by
    rcases hr with ⟨h1, h2, h3, g, c, he, ho⟩ | ⟨hn, he⟩
    · rw [joF_yes ⟨h1, h2, h3⟩]
      exact ⟨_, c, by rw [jnT_len]; exact he, ho, hbl⟩
    · rw [joF_no hn]
      exact ⟨none, 0, he, own_none _ _, hbl⟩

end Go.Proofs.Ytccbjgajmjcpjab

/-
  The laws of chapter 6: lists that are at most others; the draw and the walk of FnJoinTables.
-/
namespace Go.Proofs.Ytccbjgajmjcpjab
open Go.RowKit Go.Lib

/-- Each of the one list is at most that of the other. -/
def amB (xs ys : List Int) : Bool := decide (∀ k, k < xs.length → T xs k ≤ T ys k)
theorem amB_iff {xs ys : List Int} : amB xs ys = true ↔ ∀ k, k < xs.length → T xs k ≤ T ys k := by unfold amB; simp
theorem amB_bad {xs ys : List Int} {k : Nat} {x y : Int} (hx : xs[k]? = some x) (hy : ys[k]? = some y) (h : y < x) : amB xs ys = false := by
  rcases hb : amB xs ys with _ | _
  · rfl
  · have hk : k < xs.length := by rcases Nat.lt_or_ge k xs.length with h1 | h1; exact h1; rw [List.getElem?_eq_none h1] at hx; cases hx
    have := amB_iff.1 hb k hk
    rw [T_of hx, T_of hy] at this
    omega
def AmTo (xs ys : List Int) (k : Nat) : Prop := ∀ j, j < k → T xs j ≤ T ys j
theorem AmTo.step {xs ys : List Int} {k : Nat} {x y : Int} (h : AmTo xs ys k) (hx : xs[k]? = some x) (hy : ys[k]? = some y) (hxy : ¬ y < x) : AmTo xs ys (k + 1) := fun j hj => by
  rcases Nat.lt_or_ge j k with h1 | h1
  · exact h j h1
  · obtain rfl : j = k := by omega
    rw [T_of hx, T_of hy]
    omega
theorem AmTo.all {xs ys : List Int} (h : AmTo xs ys xs.length) : amB xs ys = true := amB_iff.2 h

/-- What is drawn: two lists of at most eight numbers. -/
def DrawnT2 (w : World) (e : Ending) (w' : World) : Prop :=
  ∃ (g c : Nat) (t : List Int) (g2 c2 : Nat) (u : List Int), e = .returned (.tuple #[.slice (some ⟨g, 0, none⟩) t.length c, .slice (some ⟨g2, 0, none⟩) u.length c2]) ∧ Rd w' (some ⟨g, 0, none⟩) c t ∧ Rd w' (some ⟨g2, 0, none⟩) c2 u ∧ t.length ≤ 8 ∧ t.length ≤ c ∧ u.length ≤ 8 ∧ u.length ≤ c2 ∧ Below w.heap.size w w'

theorem joF_some {a b : List Int} (h : (joF a b).length ≠ 0) : VT a ∧ VT b ∧ VT (joF a b) ∧ joF a b = jnT a b := by
  by_cases hh : VT a ∧ VT b ∧ VT (jnT a b)
  · have e := joF_yes hh
    exact ⟨hh.1, hh.2.1, by rw [e]; exact hh.2.2, e⟩
  · rw [joF_no hh] at h; exact absurd rfl h
theorem jnT_comm {a b : List Int} (ha : VT a) (hb : VT b) : jnT b a = jnT a b := by
  rw [jnT_tg ha hb, jnT_tg hb ha]
  exact ext8 (tg_len _ _) (tg_len _ _) (fun x hx => by rw [tg_at _ _ hx, tg_at _ _ hx]; exact jn_comm hx)
theorem joF_comm {a b : List Int} (h : (joF a b).length ≠ 0) : joF b a = joF a b := by
  obtain ⟨ha, hb, hv, e⟩ := joF_some h
  rw [e, ← jnT_comm ha hb]
  refine joF_yes ⟨hb, ha, ?_⟩
  rw [jnT_comm ha hb, ← e]
  exact hv
theorem jnT_val {a b : List Int} (ha : VT a) (hb : VT b) {x : Nat} (hx : x < 8) : T (jnT a b) x = jn (T a) (T b) x := by rw [jnT_tg ha hb, tg_at _ _ hx]
/-- What the law says of a joined table. -/
theorem joF_says {a b : List Int} (h : (joF a b).length ≠ 0) : a.length = 8 ∧ b.length = 8 ∧ (joF a b).length = 8 ∧ vt (joF a b) = true ∧ joF b a = joF a b ∧ amB a (joF a b) = true ∧ amB b (joF a b) = true ∧ (mvB a = true → mvB b = true → mvB (joF a b) = true) := by
  obtain ⟨ha, hb, hv, e⟩ := joF_some h
  have hw : ∀ {x : Nat}, x < 8 → T (joF a b) x = jn (T a) (T b) x := fun hx => by rw [e]; exact jnT_val ha hb hx
  refine ⟨ha.1, hb.1, hv.1, vt_true hv, joF_comm h, amB_iff.2 (fun k hk => ?_), amB_iff.2 (fun k hk => ?_), fun m1 m2 => ?_⟩
  · have hk8 : k < 8 := by rw [ha.1] at hk; exact hk
    rw [hw hk8]
    have := jn_ge (a := T a) (b := T b) (sub_self hk8)
    rw [Nat.sub_self, hb.2.1] at this
    omega
  · have hk8 : k < 8 := by rw [hb.1] at hk; exact hk
    rw [hw hk8]
    have := jn_ge (a := T a) (b := T b) (sub_zero k)
    rw [ha.2.1, Nat.sub_zero] at this
    omega
  · have o1 := (mvB_iff.1 m1).2.mo ha
    have o2 := (mvB_iff.1 m2).2.mo hb
    have := mo_congr (b := T (joF a b)) (fun s hs => (hw hs).symm) (jn_mo o1 o2 (fun s hs => (hb.bd hs).1))
    exact mvB_true hv (this.mv hv)

end Go.Proofs.Ytccbjgajmjcpjab
