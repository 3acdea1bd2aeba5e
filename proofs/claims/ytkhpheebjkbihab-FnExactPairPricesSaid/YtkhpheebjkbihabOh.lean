/-
  Chapter 8, the program: numbers with that of none behind them; pairs in memory, and their sum.
-/
import Derived.Test.YtkhpheebjkbihabOe
import Derived.Test.YtkhpheebjkbihabOa
import Derived.Test.YtkhpheebjkbihabAp
import Derived.ArgAppend
namespace Go.Proofs.Ytkhpheebjkbihab
open Go.RowKit

/-- A new list, in memory of the call's own. -/
def NewL (w : World) (zs : List Int) (e : Ending) (w' : World) : Prop :=
  ∃ A c, e = .returned (.slice A zs.length c) ∧ Own w' w.heap.size A c zs ∧ Below w.heap.size w w'

set_option maxRecDepth 100000 in
set_option maxHeartbeats 1000000 in
theorem withNone_any (A : Option Addr) (c : Nat) (xs : List Int) (w : World) (h : Rd w A c xs) (h1 : 1 ≤ xs.length) (hc : xs.length ≤ c) (hl : xs.length ≤ 1048576) :
    Calls Try.prog 124 #[.slice A xs.length c] w (NewL w (xs ++ [0])) := by
  obtain ⟨i0, hi, hz0, hz1, hz2⟩ := info_parts int_info
  obtain ⟨b, off, rfl, hrd⟩ := h.open_ h1
  have hlit := own_lit w [0] (by simp)
  have hb0 := (Below.refl w.heap.size w).alloc (Nat.le_refl _) (.cells #[.int .i64 0] 3)
  have HCE : Hid (∀ b', some (⟨b, off, none⟩ : Addr) = some b' → ∀ (j : Nat) (u : Value), (xs.map (Value.int .i64))[j]? = some u → (w.alloc (.cells #[.int .i64 0] 3)).cell? (b'.add j) = some u) := Lib.hid (fun b' e j u hu => by
    cases e
    rw [List.getElem?_map] at hu
    obtain ⟨x, hx, rfl⟩ := Option.map_eq_some_iff.1 hu
    have := (hrd j x hx)
    rw [Addr.add_lit]
    exact (hb0.cell (p := ⟨b, off + j, none⟩) (World.block_lt_of_cell? w _ this)).trans this)
  have HLC : Hid (∀ (j : Nat) (u : Value), [Value.int .i64 0][j]? = some u → (w.alloc (.cells #[.int .i64 0] 3)).cell? ((⟨w.heap.size, 0, none⟩ : Addr).add j) = some u) := Lib.hid (fun j u hu => by
    cases j with
    | zero =>
      simp only [List.getElem?_cons_zero, Option.some.injEq] at hu
      subst hu
      rw [Addr.add_lit, Nat.add_zero, World.cell?_alloc_new]
      rfl
    | succ j => simp at hu)
  have hm1 : xs.length + 1 ≤ maxLen := by unfold maxLen; omega
  have HM1 := Lib.hid hm1
  have hm2 : (xs.length + 1) * 8 ≤ 140737488355328 := by omega
  have HM2 := Lib.hid hm2
  have HB0 := Lib.hid hb0
  clear hrd hlit hb0 hm1 hm2 h
  go_enter Try.func124, Try.ntmps124
  go_wp2_with (at_builtin; refine wpList_append_grows _ rfl _ _ 27 rfl 3 i0 (.int .i64 0) 1 8 rfl hi hz0 hz1 hz2 rfl (by decide) (some ⟨b, off, none⟩) xs.length xs.length (xs.map (Value.int .i64)) rfl (fun e => by cases e) (by simp) HCE.out ⟨w.heap.size, 0, none⟩ 1 1 [Value.int .i64 0] rfl rfl HLC.out (fun u hu => by have := List.mem_singleton.1 hu; subst this; rfl) (by omega) HM1.out HM2.out ?_; intro v' w' hown hgr)
  go_ret
  have hB : Below w.heap.size w w' := HB0.out.grown hgr HB0.out.size (fun k e => by cases e)
  have hmap : xs.map (Value.int .i64) ++ [Value.int .i64 0] = (xs ++ [0]).map (Value.int .i64) := by simp
  rw [hmap] at hown
  obtain ⟨_, ⟨hv, hz⟩ | ⟨g, c', hv⟩⟩ := own_shape hown
  · simp at hz
  · subst hv
    refine ⟨some ⟨g, 0, none⟩, c', rfl, ?_, hB⟩
    have := own_base hown HB0.out.size
    rw [show xs.length + 1 = (xs ++ [0]).length by simp] at this
    exact this

/-- Pairs in memory: each tells a thing and its worth. -/
def PLs (w : World) : Value → List (Int × Int) → Prop
  | v, [] => v = .pointer none
  | v, t :: ts => ∃ b rest, v = .pointer (some ⟨b, 0, none⟩) ∧ w.cell? ⟨b, 0, none⟩ = some (.int .i64 t.1) ∧ w.cell? ⟨b, 1, none⟩ = some (.int .i64 t.2) ∧ w.cell? ⟨b, 2, none⟩ = some rest ∧ PLs w rest ts
theorem PLs.below {w w' : World} (hb : Below w.heap.size w w') : ∀ {ts : List (Int × Int)} {v : Value}, PLs w v ts → PLs w' v ts := by
  intro ts
  induction ts with
  | nil => intro v h; exact h
  | cons t ts ih =>
    intro v h
    obtain ⟨b, rest, hv, h0, h1, h2, hr⟩ := h
    have k := fun (j : Nat) (u : Value) (hc : w.cell? ⟨b, j, none⟩ = some u) => (hb.cell (p := ⟨b, j, none⟩) (World.block_lt_of_cell? w _ hc)).trans hc
    exact ⟨b, rest, hv, k 0 _ h0, k 1 _ h1, k 2 _ h2, ih hr⟩
/-- Their sum. -/
def smP : List (Int × Int) → Int
  | [] => 0
  | t :: ts => t.2 + smP ts
/-- Who has what, with its worth. -/
def prs : List (List Int) → List Nat → List (Int × Int)
  | r :: rs, j :: js => ((j : Int), r.getD j 0) :: prs rs js
  | _, _ => []
theorem smP_prs : ∀ (rows : List (List Int)) (js : List Nat), smP (prs rows js) = vl rows js := by
  intro rows
  induction rows with
  | nil => intro js; simp [prs, smP, vl]
  | cons r rs ih =>
    intro js
    cases js with
    | nil => simp [prs, smP, vl]
    | cons j js => simp only [prs, smP, vl, ih]

theorem calls_qd {P : Program} {f : FuncId} {args : Array Value} {w : World} {n : Nat} {v : Value} (h : Calls P f args (w.drewN n) fun e w' => e = .returned v ∧ ∃ k, w' = (w.drewN n).drewN k) :
    Calls P f args (w.drewN n) fun e w'' => e = .returned v ∧ ∃ k, w'' = w.drewN k := h.mono fun _ _ ⟨he, k, hw⟩ => ⟨he, n + k, by rw [hw]; simp⟩
theorem smP_bd : ∀ (ts : List (Int × Int)), (∀ t ∈ ts, 0 ≤ t.2 ∧ t.2 ≤ 12) → 0 ≤ smP ts ∧ smP ts ≤ 12 * ts.length := by
  intro ts
  induction ts with
  | nil => intro _; simp [smP]
  | cons t ts ih =>
    intro h
    have a := ih (fun x hx => h x (by simp [hx]))
    have b := h t (by simp)
    simp only [smP, List.length_cons]
    omega

set_option maxHeartbeats 400000 in
theorem sum_any : ∀ (ts : List (Int × Int)) (v : Value) (w : World), PLs w v ts → ts.length ≤ 4 → (∀ t ∈ ts, 0 ≤ t.2 ∧ t.2 ≤ 12) →
    Calls Try.prog 101 #[v] w fun e w' => e = .returned (.int .i64 (smP ts)) ∧ ∃ n, w' = w.drewN n := by
  intro ts
  induction ts with
  | nil =>
    intro v w h _ _
    obtain rfl : v = .pointer none := h
    go_enter Try.func101, Try.ntmps101
    go_wp2
    go_ret
    exact ⟨rfl, 0, rfl⟩
  | cons t ts ih =>
    intro v w h hl hb
    obtain ⟨b, rest, rfl, h0, h1, h2, hr⟩ := h
    have HI := Lib.hid (fun n => ih rest (w.drewN n) (hr.below (below_drewN' (Below.refl _ _) n)) (by simp at hl; omega) (fun x hx => hb x (by simp [hx])))
    have hw0 := smP_bd ts (fun x hx => hb x (by simp [hx]))
    have hw1 := hb t (by simp)
    have hl' : ts.length ≤ 3 := by simp at hl; omega
    have hw : IntKind.i64.wrap (t.2 + smP ts) = t.2 + smP ts := IntWalk.i64_in _ (by omega)
    clear ih hr hb hl hw0 hw1 hl'
    go_enter Try.func101, Try.ntmps101
    go_wp2_with fail
    go_quiet (exact calls_qd (HI.out _))
    go_wp2
    go_ret
    exact ⟨by first | rfl | simp only [smP], _, rfl⟩
end Go.Proofs.Ytkhpheebjkbihab
