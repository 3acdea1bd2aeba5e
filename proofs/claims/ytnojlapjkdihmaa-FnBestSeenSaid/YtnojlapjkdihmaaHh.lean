/-
  Chapter 11, the program: what is had from stages on: calls that are deferred in a loop.
-/
import Derived.Test.YtnojlapjkdihmaaG29
import Derived.Test.YtnojlapjkdihmaaG30
import Derived.Defers
namespace Go.Proofs.Ytnojlapjkdihmaa
open Go.RowKit

/-- Where the rows are that the deferred calls will look at. -/
def BoxRows (w0 W : World) : List Nat → List (List Int) → Prop
  | [], [] => True
  | b :: bs, r :: rs => (∃ b' off c, W.cell? ⟨b, 0, none⟩ = some (.slice (some ⟨b', off, none⟩) r.length c) ∧ Rd w0 (some ⟨b', off, none⟩) c r ∧ r.length ≤ c ∧ w0.heap.size + 2 ≤ b) ∧ BoxRows w0 W bs rs
  | _, _ => False
theorem BoxRows.keep {w0 W W' : World} (hk : ∀ j, j < W.heap.size → j ≠ w0.heap.size + 1 → W'.heap[j]? = W.heap[j]?) : ∀ {bs : List Nat} {rs : List (List Int)}, BoxRows w0 W bs rs → BoxRows w0 W' bs rs
  | [], [], _ => trivial
  | b :: bs, r :: rs, ⟨⟨b', off, c, hc, h2, h3, h4⟩, h5⟩ => by
    refine ⟨⟨b', off, c, ?_, h2, h3, h4⟩, BoxRows.keep hk h5⟩
    have hlt := World.block_lt_of_cell? W _ hc
    rw [← hc]
    unfold World.cell?
    rw [hk b hlt (by omega)]
  | [], _ :: _, h => h.elim
  | _ :: _, [], h => h.elim
theorem keep_set2 {W W1 : World} {M : Nat} (hB : Below W.heap.size W W1) (u v : Value) : ∀ j, j < W.heap.size → j ≠ M → ((W1.setCell ⟨M, 0, none⟩ u).setCell ⟨M, 1, none⟩ v).heap[j]? = W.heap[j]? := fun j h1 h2 => by
  rw [Below.heap_setCell _ _ _ _ (fun e => h2 e), Below.heap_setCell _ _ _ _ (fun e => h2 e)]
  exact hB.block j h1
theorem ways_small {rows : List (List Int)} (hv : VS rows) (hl : rows.length ≤ 3) : 1 ≤ waysL rows ∧ waysL rows ≤ 46656 := by
  refine ⟨waysL_pos rows hv, Int.le_trans (waysL_le rows hv) ?_⟩
  have : rows.length = 0 ∨ rows.length = 1 ∨ rows.length = 2 ∨ rows.length = 3 := by omega
  rcases this with h | h | h | h <;> rw [h] <;> decide
def loopM (n : Nat) (a : Act) (_ : World) : Nat := n - (intOf (a.tmps.getD 10 undef)).toNat

set_option maxHeartbeats 1000000 in
theorem mean1B_any (bx bf M b off c : Nat) (xs : List Int) (e q : Rat) (n d en ed N2 M2 D : Int) (u : FrameMode) (W : World)
    (hx : W.cell? ⟨bx, 0, none⟩ = some (.slice (some ⟨b, off, none⟩) xs.length c)) (hf : W.cell? ⟨bf, 0, none⟩ = some (.func (.func 110) #[] #[])) (hm : PairAt W M n d)
    (h : Rd W (some ⟨b, off, none⟩) c xs) (hcc : xs.length ≤ c) (hv : vW xs = true) (hD1 : 1 ≤ D) (hD : D ≤ 46656) (hr : Had D q)
    (he : FrIs e en ed) (e1 : -4611686018427387 ≤ en) (e2 : en ≤ 4611686018427387) (e3 : ed ≤ 4611686018427387) (hrr : FrIs q n d) (hq : FrIs (meanQ xs e q) N2 M2)
    (HE : Hid (∀ W', Below W.heap.size W W' → Calls Try.prog 110 #[frV n d] W' fun e w' => e = .returned (frV en ed) ∧ Below W'.heap.size W' w')) :
    CallsD Try.prog 168 #[.pointer (some ⟨bx, 0, none⟩), .pointer (some ⟨bf, 0, none⟩), .pointer (some ⟨M, 0, none⟩)] u W fun e u' W' => u' = u ∧ (e = .returned (.tuple #[]) ∧ ∃ W1, Below W.heap.size W W1 ∧ W' = (W1.setCell ⟨M, 0, none⟩ (.int .i64 N2)).setCell ⟨M, 1, none⟩ (.int .i64 M2)) := by
  obtain ⟨c0, c1, f0, f1⟩ := hm.facts
  have HA := Lib.hid (fun w h => meanAt_any b off c xs e q en ed n d N2 M2 D w h hcc hv hD1 hD hr he e1 e2 e3 hrr hq)
  clear hv hr he hrr hq
  have HM := Lib.hid hm
  clear hm
  go_enter_d Try.func168, Try.ntmps168
  go_wp2_with fail
  refine wp_region_noPanic ?_
  refine wp_region_last 6 (fun w' => Below W.heap.size W w' ∧ (w'.cell? ⟨bx, 0, none⟩ = some (.slice (some ⟨b, off, none⟩) xs.length c) ∧ w'.cell? ⟨bf, 0, none⟩ = some (.func (.func 110) #[] #[]) ∧ w'.cell? ⟨M, 0, none⟩ = some (.int .i64 n) ∧ w'.cell? ⟨M, 1, none⟩ = some (.int .i64 d))) (by kernel_rfl) ⟨(Below.refl _ _).drew, hx, hf, c0, c1⟩ (fun hHeld => ?_)
  refine wpAnyL_take (i := 0) (v := _) rfl rfl (by kernel_rfl) (by kernel_rfl) (by kernel_rfl) (by kernel_rfl) (fun _ _ _ h => h) (Or.inl ⟨by rfl, fun w hSw => by (obtain ⟨_, s0, s1, s2, s3⟩ := hSw; go_simp; rfl)⟩) (by assumption) ?_
  refine wpAnyL_take (i := 1) (v := _) rfl rfl (by kernel_rfl) (by kernel_rfl) (by kernel_rfl) (by kernel_rfl) (fun _ _ _ h => h) (Or.inl ⟨by rfl, fun w hSw => by (obtain ⟨_, s0, s1, s2, s3⟩ := hSw; go_simp; rfl)⟩) (by assumption) ?_
  refine wpAnyL_take (i := 2) (v := _) rfl rfl (by kernel_rfl) (by kernel_rfl) (by kernel_rfl) (by kernel_rfl) (fun _ _ _ h => h) (Or.inl ⟨by rfl, fun w hSw => by (obtain ⟨_, s0, s1, s2, s3⟩ := hSw; go_simp; rfl)⟩) (by assumption) ?_
  refine wpAnyL_take (i := 4) (v := _) rfl rfl (by kernel_rfl) (by kernel_rfl) (by kernel_rfl) (by kernel_rfl) (fun _ _ _ h => h) (Or.inl ⟨by rfl, fun w hSw => by (obtain ⟨_, s0, s1, s2, s3⟩ := hSw; go_simp; rfl)⟩) (by assumption) ?_
  refine wpAnyL_one (i := 3) (by kernel_rfl) rfl (fun K hK => ?_)
  go_simp
  refine (HE.out W.drew ((Below.refl _ W).drew)).mono ?_
  rintro e w1 ⟨rfl, b1⟩
  have B1 : Below W.heap.size W w1 := ((Below.refl _ W).drew).trans b1
  have cl := fun (p : Addr) (v : Value) (hc : W.cell? p = some v) => (B1.cell (World.block_lt_of_cell? W p hc)).trans hc
  refine hK.out _ _ ⟨B1, cl _ _ hx, cl _ _ hf, cl _ _ c0, cl _ _ c1⟩ (fun hHeld => ?_)
  clear hK K cl
  refine wpAnyL_one (i := 5) (by kernel_rfl) rfl (fun K hK => ?_)
  go_simp
  refine (HA.out w1 (h.below B1)).mono ?_
  rintro e w2 ⟨rfl, b2⟩
  have B2 : Below W.heap.size W w2 := B1.trans (b2.mono B1.size)
  have cl := fun (p : Addr) (v : Value) (hc : W.cell? p = some v) => (B2.cell (World.block_lt_of_cell? W p hc)).trans hc
  refine hK.out _ _ ⟨B2, cl _ _ hx, cl _ _ hf, cl _ _ c0, cl _ _ c1⟩ (fun hHeld => ?_)
  obtain ⟨d0, d1, g0, g1⟩ := (HM.out.below B2).facts
  clear hK K cl
  refine wpAnyL_last (by kernel_rfl) rfl (fun K hK => ?_)
  unfold frV
  go_simp
  refine hK.out _ _ ?_
  refine wpAnyL_done (by kernel_rfl) (NoPanic.normal ?_) _
  go_end0
  exact ⟨rfl, w2, B2, rfl⟩

/-- The calls that are deferred, the last one first. -/
def dsB (w : World) (bs : List Nat) : List Deferred := bs.map fun b => { target := .fn (.func 168) #[.pointer (some ⟨b, 0, none⟩), .pointer (some ⟨w.heap.size, 0, none⟩), .pointer (some ⟨w.heap.size + 1, 0, none⟩)], args := #[] }

set_option maxHeartbeats 1000000 in
theorem leavesB_any {fn : Func} {tmps : Array Value} {R : Ending → World → Prop} (w0 : World) (ef : Rat → Rat)
    (HE : Hid (∀ (q : Rat) (D n d : Int), Had D q → 1 ≤ D → D ≤ 46656 → FrIs q n d → ∃ en ed, FrIs (ef q) en ed ∧ -4611686018427387 ≤ en ∧ en ≤ 4611686018427387 ∧ ed ≤ 4611686018427387 ∧
      ∀ W', Below w0.heap.size w0 W' → Calls Try.prog 110 #[frV n d] W' fun e w' => e = .returned (frV en ed) ∧ Below W'.heap.size W' w')) :
    ∀ (bs : List Nat) (rs ws : List (List Int)) (W : World) (n d : Int), BoxRows w0 W bs rs → (∀ r ∈ rs, vW r = true) → VS ws → rs.length + ws.length ≤ 4 → Below w0.heap.size w0 W →
      W.cell? ⟨w0.heap.size, 0, none⟩ = some (.func (.func 110) #[] #[]) → PairAt W (w0.heap.size + 1) n d → FrIs (byQ ef ws) n d →
      (∀ W' n d, Below w0.heap.size w0 W' → PairAt W' (w0.heap.size + 1) n d → FrIs (byQ ef (rs.reverse ++ ws)) n d → Leaves Try.prog fn tmps R [] .returning W') → Leaves Try.prog fn tmps R (dsB w0 bs) .returning W
  | [], [], ws, W, n, d, _, _, _, _, hB, _, hm, hq, hend => hend W n d hB hm hq
  | [], _ :: _, _, _, _, _, hb, _, _, _, _, _, _, _, _ => hb.elim
  | _ :: _, [], _, _, _, _, hb, _, _, _, _, _, _, _, _ => hb.elim
  | b :: bs, r :: rs, ws, W, n, d, ⟨⟨b', off, c, hc, hrd, hcap, hb2⟩, hbs⟩, hr, hws, hl, hB, hf, hm, hq, hend => by
    have hrv := hr r (List.mem_cons_self ..)
    have hl3 : ws.length ≤ 3 := by simp only [List.length_cons] at hl; omega
    have hD := ways_small hws hl3
    have hh := by_had ef ws hws
    obtain ⟨en, ed, he, e1, e2, e3, hcall⟩ := HE.out _ _ n d hh hD.1 hD.2 hq
    refine leaves_cons (f := 168) (args := #[.pointer (some ⟨b, 0, none⟩), .pointer (some ⟨w0.heap.size, 0, none⟩), .pointer (some ⟨w0.heap.size + 1, 0, none⟩)]) (by simp) (by simp [go_sem]) ?_
    refine (mean1B_any b w0.heap.size (w0.heap.size + 1) b' off c r (ef (byQ ef ws)) (byQ ef ws) n d en ed (byQ ef (r :: ws)).num ((byQ ef (r :: ws)).den : Int) (waysL ws) .returning W hc hf hm (hrd.below hB) hcap hrv hD.1 hD.2 hh he e1 e2 e3 hq (FrIs.self _)
      (Lib.hid (fun W' hW' => hcall W' (hB.trans (hW'.mono hB.size))))).mono ?_
    rintro e u' W'' ⟨rfl, rfl, W1, hW1, rfl⟩
    have hkp := keep_set2 (M := w0.heap.size + 1) hW1 (.int .i64 (byQ ef (r :: ws)).num) (.int .i64 ((byQ ef (r :: ws)).den : Int))
    refine leavesB_any w0 ef HE bs rs (r :: ws) _ _ _ (hbs.keep hkp) (fun x hx => hr x (List.mem_cons_of_mem _ hx)) ?_ (by simp only [List.length_cons] at hl ⊢; omega) (below_set2 (hB.trans (hW1.mono hB.size)) (by omega) _ _) ?_ ((hm.below hW1).set_ _ _) (FrIs.self _) ?_
    · intro x hx
      rcases List.mem_cons.1 hx with rfl | hx
      · exact vW_valid hrv
      · exact hws x hx
    · have hlt := World.block_lt_of_cell? W _ hf
      rw [← hf]
      unfold World.cell?
      rw [hkp w0.heap.size hlt (by omega)]
    · intro W' n' d' h1 h2 h3
      exact hend W' n' d' h1 h2 (by rwa [List.reverse_cons, List.append_assoc])

/-- Where the loop stands. -/
def LoopB (w : World) (b off c : Nat) (rows : List (List Int)) (a : Act) (wr : World) : Prop :=
  ∃ (k : Nat) (bs : List Nat) (u6 u11 u12 u13 u14 u15 : Value), k ≤ rows.length ∧ BoxRows w wr bs (rows.take k).reverse ∧ Below w.heap.size w wr ∧ wr.cell? ⟨w.heap.size, 0, none⟩ = some (.func (.func 110) #[] #[]) ∧ PairAt wr (w.heap.size + 1) 0 1 ∧
    a = { tmps := #[.slice (some ⟨b, off, none⟩) rows.length c, .func (.func 110) #[] #[], undef, .pointer (some ⟨w.heap.size, 0, none⟩), .pointer (some ⟨w.heap.size + 1, 0, none⟩), undef, u6, .agg #[.int .i64 0, .int .i64 1], .slice (some ⟨b, off, none⟩) rows.length c, .int .i64 rows.length, .int .i64 k, u11, u12, u13, u14, u15, undef], defers := dsB w bs }

set_option maxHeartbeats 2000000 in
theorem meanByB_any (b off c : Nat) (rows : List (List Int)) (ef : Rat → Rat) (w : World) (h : RdR w (some ⟨b, off, none⟩) c rows) (hv : vsB rows = true)
    (HE : Hid (∀ (q : Rat) (D n d : Int), Had D q → 1 ≤ D → D ≤ 46656 → FrIs q n d → ∃ en ed, FrIs (ef q) en ed ∧ -4611686018427387 ≤ en ∧ en ≤ 4611686018427387 ∧ ed ≤ 4611686018427387 ∧
      ∀ W', Below w.heap.size w W' → Calls Try.prog 110 #[frV n d] W' fun e w' => e = .returned (frV en ed) ∧ Below W'.heap.size W' w')) :
    Calls Try.prog 109 #[.slice (some ⟨b, off, none⟩) rows.length c, .func (.func 110) #[] #[]] w fun e w' => e = .returned (frV (byQ ef rows).num ((byQ ef rows).den : Int)) ∧ Below w.heap.size w w' := by
  have hmf : ∀ (fn : Fn) (first cap : Array Value) (w : World), (Instr.makeFunc fn first cap).run Try.prog w = .ok (.func fn first cap) w := fun _ _ _ _ => rfl
  have hl := (vs_is hv).1.2
  have HM := Lib.hid (vs_is hv).2
  clear hv
  go_enter_defers Try.func109, Try.ntmps109
  go_wp2_with fail
  refine (wholeOf_any 0 _).mono ?_
  rintro e w1 ⟨rfl, b1⟩
  have kM := (PairAt.new (w := w.alloc (.cells #[.func (.func 110) #[] #[]] 90)) (x := 0) (y := 0)).below b1
  rw [World.size_alloc] at kM
  obtain ⟨c0, c1, f0, f1⟩ := kM.facts
  have kM2 := kM.set_ 0 1
  have hcf1 : w1.cell? ⟨w.heap.size, 0, none⟩ = some (.func (.func 110) #[] #[]) := (b1.cell (p := ⟨w.heap.size, 0, none⟩) (by simp <;> omega)).trans (((Boxed.new w 90 (.func (.func 110) #[] #[])).alloc (.cells #[.int .i64 0, .int .i64 0] 36)).cell)
  have B1 : Below w.heap.size w w1 := (((Below.refl _ w).alloc (Nat.le_refl _) (.cells #[.func (.func 110) #[] #[]] 90)).alloc (by simp) (.cells #[.int .i64 0, .int .i64 0] 36)).trans (b1.mono (by simp <;> omega))
  have B2 := below_set2 (B := w.heap.size + 1) B1 (by omega) (.int .i64 0) (.int .i64 1)
  have hcf2 : ((w1.setCell ⟨w.heap.size + 1, 0, none⟩ (.int .i64 0)).setCell ⟨w.heap.size + 1, 1, none⟩ (.int .i64 1)).cell? ⟨w.heap.size, 0, none⟩ = some (.func (.func 110) #[] #[]) := by
    rw [World.cell?_setCell_far _ _ _ _ (by simp), World.cell?_setCell_far _ _ _ _ (by simp)]
    exact hcf1
  have HK2 := Lib.hid kM2
  have HB2 := Lib.hid B2
  have HC2 := Lib.hid hcf2
  clear kM kM2 hcf1 hcf2 B1 B2 b1
  unfold frV
  go_wp2_with fail
  clear c0 c1 f0 f1
  refine wp_loop (LoopB w b off c rows) (loopM rows.length) ?_ ?_
  · exact ⟨0, [], _, _, _, _, _, _, Nat.zero_le _, trivial, HB2.out, HC2.out, HK2.out, rfl⟩
  rintro a' wr ⟨k, bs, u6, u11, u12, u13, u14, u15, hk, hbx, hb, hcf, hm, rfl⟩
  by_cases hlt : k < rows.length
  · obtain ⟨b0, off0, r, A', c', e0, hr, hc, hcap, hrd⟩ := h.at_ hlt
    injection e0 with e0
    injection e0 with e1 e2
    subst e1 e2
    obtain ⟨b', off', rfl⟩ := hrd.out.open1 (vW_le (HM.out r (List.mem_of_getElem? hr.out))).1
    have hcw := (hb.cell (p := ⟨b, off + k, none⟩) (World.block_lt_of_cell? w _ hc)).trans hc
    have HBX := Lib.hid hbx
    have HCF := Lib.hid hcf
    have HMM := Lib.hid hm
    have hM2 := hm.lt
    have HR := Lib.hid hr.out
    clear hbx hcf hm hc hr
    go_wp2
    refine ⟨⟨k + 1, wr.heap.size :: bs, _, _, _, _, _, _, by omega, ?_, hb.trans ((below_al wr _).mono hb.size), ?_, HMM.out.old _, by rw [Int.natCast_add]; rfl⟩, ?_⟩
    · have e : (rows.take (k + 1)).reverse = r :: (rows.take k).reverse := by rw [List.take_add_one, HR.out]; simp
      rw [e]
      exact ⟨⟨b', off', c', by rw [World.cell?_alloc_new]; rfl, hrd.out, hcap.out, by omega⟩, HBX.out.keep (fun j h1 _ => (below_al wr _).block j h1)⟩
    · exact ((below_al wr _).cell (p := ⟨w.heap.size, 0, none⟩) (World.block_lt_of_cell? wr _ HCF.out)).trans HCF.out
    · simp [loopM, intOf]; omega
  · obtain rfl : k = rows.length := by omega
    rw [List.take_length] at hbx
    obtain ⟨c0, c1, f0, f1⟩ := hm.facts
    have HBX := Lib.hid hbx
    have HCF := Lib.hid hcf
    clear hbx hcf
    go_wp2
    have hkp := keep_set2 (M := w.heap.size + 1) (Below.refl wr.heap.size wr) (.int .i64 0) (.int .i64 1)
    refine leavesB_any w ef HE bs rows.reverse [] _ 0 1 (HBX.out.keep hkp) (fun x hx => HM.out x (List.mem_reverse.1 hx)) (fun x hx => by cases hx) (by simp; omega) (below_set2 hb (by omega) _ _) ?_ (hm.set_ 0 1) (FrIs.int 0) ?_
    · rw [World.cell?_setCell_far _ _ _ _ (by simp), World.cell?_setCell_far _ _ _ _ (by simp)]
      exact HCF.out
    · intro W' n d h1 h2 h3
      rw [List.reverse_reverse, List.append_nil] at h3
      obtain ⟨rfl, rfl⟩ := h3
      obtain ⟨e0, e1, _, _⟩ := h2.facts
      exact ⟨frV (byQ ef rows).num ((byQ ef rows).den : Int), by simp [results, Try.results109, go_sem, frV, e0, e1], rfl, h1⟩
-- the variant with a captured edge
set_option maxHeartbeats 1000000 in
theorem mean1E_any (p : Nat) (bx bf M b off c : Nat) (xs : List Int) (e q : Rat) (n d en ed N2 M2 D : Int) (u : FrameMode) (W : World)
    (hx : W.cell? ⟨bx, 0, none⟩ = some (.slice (some ⟨b, off, none⟩) xs.length c)) (hf : W.cell? ⟨bf, 0, none⟩ = some (.func (.func 173) #[] #[.pointer (some ⟨p, 0, none⟩)])) (hm : PairAt W M n d)
    (h : Rd W (some ⟨b, off, none⟩) c xs) (hcc : xs.length ≤ c) (hv : vW xs = true) (hD1 : 1 ≤ D) (hD : D ≤ 46656) (hr : Had D q)
    (he : FrIs e en ed) (e1 : -4611686018427387 ≤ en) (e2 : en ≤ 4611686018427387) (e3 : ed ≤ 4611686018427387) (hrr : FrIs q n d) (hq : FrIs (meanQ xs e q) N2 M2)
    (HE : Hid (∀ W', Below W.heap.size W W' → Calls Try.prog 173 #[frV n d, .pointer (some ⟨p, 0, none⟩)] W' fun e w' => e = .returned (frV en ed) ∧ Below W'.heap.size W' w')) :
    CallsD Try.prog 168 #[.pointer (some ⟨bx, 0, none⟩), .pointer (some ⟨bf, 0, none⟩), .pointer (some ⟨M, 0, none⟩)] u W fun e u' W' => u' = u ∧ (e = .returned (.tuple #[]) ∧ ∃ W1, Below W.heap.size W W1 ∧ W' = (W1.setCell ⟨M, 0, none⟩ (.int .i64 N2)).setCell ⟨M, 1, none⟩ (.int .i64 M2)) := by
  obtain ⟨c0, c1, f0, f1⟩ := hm.facts
  have HA := Lib.hid (fun w h => meanAt_any b off c xs e q en ed n d N2 M2 D w h hcc hv hD1 hD hr he e1 e2 e3 hrr hq)
  clear hv hr he hrr hq
  have HM := Lib.hid hm
  clear hm
  go_enter_d Try.func168, Try.ntmps168
  go_wp2_with fail
  refine wp_region_noPanic ?_
  refine wp_region_last 6 (fun w' => Below W.heap.size W w' ∧ (w'.cell? ⟨bx, 0, none⟩ = some (.slice (some ⟨b, off, none⟩) xs.length c) ∧ w'.cell? ⟨bf, 0, none⟩ = some (.func (.func 173) #[] #[.pointer (some ⟨p, 0, none⟩)]) ∧ w'.cell? ⟨M, 0, none⟩ = some (.int .i64 n) ∧ w'.cell? ⟨M, 1, none⟩ = some (.int .i64 d))) (by kernel_rfl) ⟨(Below.refl _ _).drew, hx, hf, c0, c1⟩ (fun hHeld => ?_)
  refine wpAnyL_take (i := 0) (v := _) rfl rfl (by kernel_rfl) (by kernel_rfl) (by kernel_rfl) (by kernel_rfl) (fun _ _ _ h => h) (Or.inl ⟨by rfl, fun w hSw => by (obtain ⟨_, s0, s1, s2, s3⟩ := hSw; go_simp; rfl)⟩) (by assumption) ?_
  refine wpAnyL_take (i := 1) (v := _) rfl rfl (by kernel_rfl) (by kernel_rfl) (by kernel_rfl) (by kernel_rfl) (fun _ _ _ h => h) (Or.inl ⟨by rfl, fun w hSw => by (obtain ⟨_, s0, s1, s2, s3⟩ := hSw; go_simp; rfl)⟩) (by assumption) ?_
  refine wpAnyL_take (i := 2) (v := _) rfl rfl (by kernel_rfl) (by kernel_rfl) (by kernel_rfl) (by kernel_rfl) (fun _ _ _ h => h) (Or.inl ⟨by rfl, fun w hSw => by (obtain ⟨_, s0, s1, s2, s3⟩ := hSw; go_simp; rfl)⟩) (by assumption) ?_
  refine wpAnyL_take (i := 4) (v := _) rfl rfl (by kernel_rfl) (by kernel_rfl) (by kernel_rfl) (by kernel_rfl) (fun _ _ _ h => h) (Or.inl ⟨by rfl, fun w hSw => by (obtain ⟨_, s0, s1, s2, s3⟩ := hSw; go_simp; rfl)⟩) (by assumption) ?_
  refine wpAnyL_one (i := 3) (by kernel_rfl) rfl (fun K hK => ?_)
  go_simp
  refine (HE.out W.drew ((Below.refl _ W).drew)).mono ?_
  rintro e w1 ⟨rfl, b1⟩
  have B1 : Below W.heap.size W w1 := ((Below.refl _ W).drew).trans b1
  have cl := fun (p : Addr) (v : Value) (hc : W.cell? p = some v) => (B1.cell (World.block_lt_of_cell? W p hc)).trans hc
  refine hK.out _ _ ⟨B1, cl _ _ hx, cl _ _ hf, cl _ _ c0, cl _ _ c1⟩ (fun hHeld => ?_)
  clear hK K cl
  refine wpAnyL_one (i := 5) (by kernel_rfl) rfl (fun K hK => ?_)
  go_simp
  refine (HA.out w1 (h.below B1)).mono ?_
  rintro e w2 ⟨rfl, b2⟩
  have B2 : Below W.heap.size W w2 := B1.trans (b2.mono B1.size)
  have cl := fun (p : Addr) (v : Value) (hc : W.cell? p = some v) => (B2.cell (World.block_lt_of_cell? W p hc)).trans hc
  refine hK.out _ _ ⟨B2, cl _ _ hx, cl _ _ hf, cl _ _ c0, cl _ _ c1⟩ (fun hHeld => ?_)
  obtain ⟨d0, d1, g0, g1⟩ := (HM.out.below B2).facts
  clear hK K cl
  refine wpAnyL_last (by kernel_rfl) rfl (fun K hK => ?_)
  unfold frV
  go_simp
  refine hK.out _ _ ?_
  refine wpAnyL_done (by kernel_rfl) (NoPanic.normal ?_) _
  go_end0
  exact ⟨rfl, w2, B2, rfl⟩

/-- The calls that are deferred, the last one first. -/
def dsE (w : World) (bs : List Nat) : List Deferred := bs.map fun b => { target := .fn (.func 168) #[.pointer (some ⟨b, 0, none⟩), .pointer (some ⟨w.heap.size, 0, none⟩), .pointer (some ⟨w.heap.size + 1, 0, none⟩)], args := #[] }

set_option maxHeartbeats 1000000 in
theorem leavesE_any {fn : Func} {tmps : Array Value} {R : Ending → World → Prop} (w0 : World) (p : Nat) (ef : Rat → Rat)
    (HE : Hid (∀ (q : Rat) (D n d : Int), Had D q → 1 ≤ D → D ≤ 46656 → FrIs q n d → ∃ en ed, FrIs (ef q) en ed ∧ -4611686018427387 ≤ en ∧ en ≤ 4611686018427387 ∧ ed ≤ 4611686018427387 ∧
      ∀ W', Below w0.heap.size w0 W' → Calls Try.prog 173 #[frV n d, .pointer (some ⟨p, 0, none⟩)] W' fun e w' => e = .returned (frV en ed) ∧ Below W'.heap.size W' w')) :
    ∀ (bs : List Nat) (rs ws : List (List Int)) (W : World) (n d : Int), BoxRows w0 W bs rs → (∀ r ∈ rs, vW r = true) → VS ws → rs.length + ws.length ≤ 4 → Below w0.heap.size w0 W →
      W.cell? ⟨w0.heap.size, 0, none⟩ = some (.func (.func 173) #[] #[.pointer (some ⟨p, 0, none⟩)]) → PairAt W (w0.heap.size + 1) n d → FrIs (byQ ef ws) n d →
      (∀ W' n d, Below w0.heap.size w0 W' → PairAt W' (w0.heap.size + 1) n d → FrIs (byQ ef (rs.reverse ++ ws)) n d → Leaves Try.prog fn tmps R [] .returning W') → Leaves Try.prog fn tmps R (dsE w0 bs) .returning W
  | [], [], ws, W, n, d, _, _, _, _, hB, _, hm, hq, hend => hend W n d hB hm hq
  | [], _ :: _, _, _, _, _, hb, _, _, _, _, _, _, _, _ => hb.elim
  | _ :: _, [], _, _, _, _, hb, _, _, _, _, _, _, _, _ => hb.elim
  | b :: bs, r :: rs, ws, W, n, d, ⟨⟨b', off, c, hc, hrd, hcap, hb2⟩, hbs⟩, hr, hws, hl, hB, hf, hm, hq, hend => by
    have hrv := hr r (List.mem_cons_self ..)
    have hl3 : ws.length ≤ 3 := by simp only [List.length_cons] at hl; omega
    have hD := ways_small hws hl3
    have hh := by_had ef ws hws
    obtain ⟨en, ed, he, e1, e2, e3, hcall⟩ := HE.out _ _ n d hh hD.1 hD.2 hq
    refine leaves_cons (f := 168) (args := #[.pointer (some ⟨b, 0, none⟩), .pointer (some ⟨w0.heap.size, 0, none⟩), .pointer (some ⟨w0.heap.size + 1, 0, none⟩)]) (by simp) (by simp [go_sem]) ?_
    refine (mean1E_any p b w0.heap.size (w0.heap.size + 1) b' off c r (ef (byQ ef ws)) (byQ ef ws) n d en ed (byQ ef (r :: ws)).num ((byQ ef (r :: ws)).den : Int) (waysL ws) .returning W hc hf hm (hrd.below hB) hcap hrv hD.1 hD.2 hh he e1 e2 e3 hq (FrIs.self _)
      (Lib.hid (fun W' hW' => hcall W' (hB.trans (hW'.mono hB.size))))).mono ?_
    rintro e u' W'' ⟨rfl, rfl, W1, hW1, rfl⟩
    have hkp := keep_set2 (M := w0.heap.size + 1) hW1 (.int .i64 (byQ ef (r :: ws)).num) (.int .i64 ((byQ ef (r :: ws)).den : Int))
    refine leavesE_any w0 p ef HE bs rs (r :: ws) _ _ _ (hbs.keep hkp) (fun x hx => hr x (List.mem_cons_of_mem _ hx)) ?_ (by simp only [List.length_cons] at hl ⊢; omega) (below_set2 (hB.trans (hW1.mono hB.size)) (by omega) _ _) ?_ ((hm.below hW1).set_ _ _) (FrIs.self _) ?_
    · intro x hx
      rcases List.mem_cons.1 hx with rfl | hx
      · exact vW_valid hrv
      · exact hws x hx
    · have hlt := World.block_lt_of_cell? W _ hf
      rw [← hf]
      unfold World.cell?
      rw [hkp w0.heap.size hlt (by omega)]
    · intro W' n' d' h1 h2 h3
      exact hend W' n' d' h1 h2 (by rwa [List.reverse_cons, List.append_assoc])

/-- Where the loop stands. -/
def LoopE (w : World) (p : Nat) (b off c : Nat) (rows : List (List Int)) (a : Act) (wr : World) : Prop :=
  ∃ (k : Nat) (bs : List Nat) (u6 u11 u12 u13 u14 u15 : Value), k ≤ rows.length ∧ BoxRows w wr bs (rows.take k).reverse ∧ Below w.heap.size w wr ∧ wr.cell? ⟨w.heap.size, 0, none⟩ = some (.func (.func 173) #[] #[.pointer (some ⟨p, 0, none⟩)]) ∧ PairAt wr (w.heap.size + 1) 0 1 ∧
    a = { tmps := #[.slice (some ⟨b, off, none⟩) rows.length c, .func (.func 173) #[] #[.pointer (some ⟨p, 0, none⟩)], undef, .pointer (some ⟨w.heap.size, 0, none⟩), .pointer (some ⟨w.heap.size + 1, 0, none⟩), undef, u6, .agg #[.int .i64 0, .int .i64 1], .slice (some ⟨b, off, none⟩) rows.length c, .int .i64 rows.length, .int .i64 k, u11, u12, u13, u14, u15, undef], defers := dsE w bs }

set_option maxHeartbeats 2000000 in
theorem meanByE_any (b off c p : Nat) (rows : List (List Int)) (ef : Rat → Rat) (w : World) (h : RdR w (some ⟨b, off, none⟩) c rows) (hv : vsB rows = true)
    (HE : Hid (∀ (q : Rat) (D n d : Int), Had D q → 1 ≤ D → D ≤ 46656 → FrIs q n d → ∃ en ed, FrIs (ef q) en ed ∧ -4611686018427387 ≤ en ∧ en ≤ 4611686018427387 ∧ ed ≤ 4611686018427387 ∧
      ∀ W', Below w.heap.size w W' → Calls Try.prog 173 #[frV n d, .pointer (some ⟨p, 0, none⟩)] W' fun e w' => e = .returned (frV en ed) ∧ Below W'.heap.size W' w')) :
    Calls Try.prog 109 #[.slice (some ⟨b, off, none⟩) rows.length c, .func (.func 173) #[] #[.pointer (some ⟨p, 0, none⟩)]] w fun e w' => e = .returned (frV (byQ ef rows).num ((byQ ef rows).den : Int)) ∧ Below w.heap.size w w' := by
  have hmf : ∀ (fn : Fn) (first cap : Array Value) (w : World), (Instr.makeFunc fn first cap).run Try.prog w = .ok (.func fn first cap) w := fun _ _ _ _ => rfl
  have hl := (vs_is hv).1.2
  have HM := Lib.hid (vs_is hv).2
  clear hv
  go_enter_defers Try.func109, Try.ntmps109
  go_wp2_with fail
  refine (wholeOf_any 0 _).mono ?_
  rintro e w1 ⟨rfl, b1⟩
  have kM := (PairAt.new (w := w.alloc (.cells #[.func (.func 173) #[] #[.pointer (some ⟨p, 0, none⟩)]] 90)) (x := 0) (y := 0)).below b1
  rw [World.size_alloc] at kM
  obtain ⟨c0, c1, f0, f1⟩ := kM.facts
  have kM2 := kM.set_ 0 1
  have hcf1 : w1.cell? ⟨w.heap.size, 0, none⟩ = some (.func (.func 173) #[] #[.pointer (some ⟨p, 0, none⟩)]) := (b1.cell (p := ⟨w.heap.size, 0, none⟩) (by simp <;> omega)).trans (((Boxed.new w 90 (.func (.func 173) #[] #[.pointer (some ⟨p, 0, none⟩)])).alloc (.cells #[.int .i64 0, .int .i64 0] 36)).cell)
  have B1 : Below w.heap.size w w1 := (((Below.refl _ w).alloc (Nat.le_refl _) (.cells #[.func (.func 173) #[] #[.pointer (some ⟨p, 0, none⟩)]] 90)).alloc (by simp) (.cells #[.int .i64 0, .int .i64 0] 36)).trans (b1.mono (by simp <;> omega))
  have B2 := below_set2 (B := w.heap.size + 1) B1 (by omega) (.int .i64 0) (.int .i64 1)
  have hcf2 : ((w1.setCell ⟨w.heap.size + 1, 0, none⟩ (.int .i64 0)).setCell ⟨w.heap.size + 1, 1, none⟩ (.int .i64 1)).cell? ⟨w.heap.size, 0, none⟩ = some (.func (.func 173) #[] #[.pointer (some ⟨p, 0, none⟩)]) := by
    rw [World.cell?_setCell_far _ _ _ _ (by simp), World.cell?_setCell_far _ _ _ _ (by simp)]
    exact hcf1
  have HK2 := Lib.hid kM2
  have HB2 := Lib.hid B2
  have HC2 := Lib.hid hcf2
  clear kM kM2 hcf1 hcf2 B1 B2 b1
  unfold frV
  go_wp2_with fail
  clear c0 c1 f0 f1
  refine wp_loop (LoopE w p b off c rows) (loopM rows.length) ?_ ?_
  · exact ⟨0, [], _, _, _, _, _, _, Nat.zero_le _, trivial, HB2.out, HC2.out, HK2.out, rfl⟩
  rintro a' wr ⟨k, bs, u6, u11, u12, u13, u14, u15, hk, hbx, hb, hcf, hm, rfl⟩
  by_cases hlt : k < rows.length
  · obtain ⟨b0, off0, r, A', c', e0, hr, hc, hcap, hrd⟩ := h.at_ hlt
    injection e0 with e0
    injection e0 with e1 e2
    subst e1 e2
    obtain ⟨b', off', rfl⟩ := hrd.out.open1 (vW_le (HM.out r (List.mem_of_getElem? hr.out))).1
    have hcw := (hb.cell (p := ⟨b, off + k, none⟩) (World.block_lt_of_cell? w _ hc)).trans hc
    have HBX := Lib.hid hbx
    have HCF := Lib.hid hcf
    have HMM := Lib.hid hm
    have hM2 := hm.lt
    have HR := Lib.hid hr.out
    clear hbx hcf hm hc hr
    go_wp2
    refine ⟨⟨k + 1, wr.heap.size :: bs, _, _, _, _, _, _, by omega, ?_, hb.trans ((below_al wr _).mono hb.size), ?_, HMM.out.old _, by rw [Int.natCast_add]; rfl⟩, ?_⟩
    · have e : (rows.take (k + 1)).reverse = r :: (rows.take k).reverse := by rw [List.take_add_one, HR.out]; simp
      rw [e]
      exact ⟨⟨b', off', c', by rw [World.cell?_alloc_new]; rfl, hrd.out, hcap.out, by omega⟩, HBX.out.keep (fun j h1 _ => (below_al wr _).block j h1)⟩
    · exact ((below_al wr _).cell (p := ⟨w.heap.size, 0, none⟩) (World.block_lt_of_cell? wr _ HCF.out)).trans HCF.out
    · simp [loopM, intOf]; omega
  · obtain rfl : k = rows.length := by omega
    rw [List.take_length] at hbx
    obtain ⟨c0, c1, f0, f1⟩ := hm.facts
    have HBX := Lib.hid hbx
    have HCF := Lib.hid hcf
    clear hbx hcf
    go_wp2
    have hkp := keep_set2 (M := w.heap.size + 1) (Below.refl wr.heap.size wr) (.int .i64 0) (.int .i64 1)
    refine leavesE_any w p ef HE bs rows.reverse [] _ 0 1 (HBX.out.keep hkp) (fun x hx => HM.out x (List.mem_reverse.1 hx)) (fun x hx => by cases hx) (by simp; omega) (below_set2 hb (by omega) _ _) ?_ (hm.set_ 0 1) (FrIs.int 0) ?_
    · rw [World.cell?_setCell_far _ _ _ _ (by simp), World.cell?_setCell_far _ _ _ _ (by simp)]
      exact HCF.out
    · intro W' n d h1 h2 h3
      rw [List.reverse_reverse, List.append_nil] at h3
      obtain ⟨rfl, rfl⟩ := h3
      obtain ⟨e0, e1, _, _⟩ := h2.facts
      exact ⟨frV (byQ ef rows).num ((byQ ef rows).den : Int), by simp [results, Try.results109, go_sem, frV, e0, e1], rfl, h1⟩
end Go.Proofs.Ytnojlapjkdihmaa
