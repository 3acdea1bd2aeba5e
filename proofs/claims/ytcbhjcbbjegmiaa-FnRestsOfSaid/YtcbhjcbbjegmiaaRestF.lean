/-
  Chapter 1: IsTrue at whatever arguments, of the model and of the program.
-/
import Derived.Test.YtcbhjcbbjegmiaaRestE
namespace Go.Proofs.Ytcbhjcbbjegmiaa
open Go.RowKit Go.Shelf

/-- What a call hands back: a bool; what was there is as it was. -/
def BoolAt (w : World) (b : Bool) (e : Ending) (w' : World) : Prop := e = .returned (.bool b) ∧ Below w.heap.size w w'

theorem kind_one {s : ByteArray} {a b : Nat} (h : KindIs s a) (k : KindIs s b) : a = b := by
  rcases h with ⟨rfl, rfl⟩ | ⟨rfl, rfl⟩ | ⟨rfl, rfl⟩ | ⟨rfl, rfl⟩ <;> rcases k with ⟨rfl, h⟩ | ⟨rfl, h⟩ | ⟨rfl, h⟩ | ⟨rfl, h⟩ <;> first
    | rfl
    | (exact absurd h (by decide))
theorem no_kind {s : ByteArray} (h : NoKind s) (kd : Nat) : ¬ KindIs s kd := by
  rintro (⟨rfl, rfl⟩ | ⟨rfl, rfl⟩ | ⟨rfl, rfl⟩ | ⟨rfl, rfl⟩)
  · exact absurd h.1 (by simp [Lib.toList_data])
  · exact absurd h.2.1 (by simp [Lib.toList_data])
  · exact absurd h.2.2.1 (by simp [Lib.toList_data])
  · exact absurd h.2.2.2 (by simp [Lib.toList_data])

theorem SIsTrue_no {kb nb tb : Bool} (s : ByteArray) (n top : Int) (w : World)
    (hk : Calls Try.prog 49 #[.string s] w fun e w' => e = .returned (.bool kb) ∧ w = w')
    (hn : inR n 1 3 = nb) (ht : inR top 0 5 = tb) (hno : (kb && nb && tb) = false) :
    Calls Try.prog 30 #[.string s, .int .i64 n, .int .i64 top] w (BoolAt w false) := by
  have HK := Lib.hid hk
  clear hk
  cases kb <;> cases nb <;> cases tb <;> first
    | (exact absurd hno (by decide))
    | (clear hno
       go_enter Try.func30, Try.ntmps30
       go_wp2_with (first
         | (go_at_call 49; refine HK.out.mono ?_; rintro e w1 ⟨rfl, rfl⟩)
         | (go_at_call 51; refine (inRange_any _ _ _ _).mono ?_; rintro e w1 ⟨rfl, rfl⟩))
       go_ret
       exact ⟨rfl, Below.refl _ _⟩)

theorem BoolAt.of_grown {w w1 w' : World} {b : Bool} {e : Ending} (h : Below w.heap.size w w1) (he : e = .returned (.bool b)) (h2 : Below w.heap.size w1 w') : BoolAt w b e w' := ⟨he, h.trans h2⟩

set_option maxHeartbeats 1000000 in
theorem IsTrue_no1 (s : ByteArray) (n top : Int) (w : World) (hk : NoKind s) :
    Calls Try.prog 29 #[.string s, .int .i64 n, .int .i64 top] w (BoolAt w false) := by
  have qf := run_eql_nilFunc
  go_enter Try.func29, Try.ntmps29
  go_wp2_with fail
  refine (saleOf_no s _ hk).mono ?_
  rintro e w1 ⟨rfl, rfl⟩
  go_wp2
  (try simp only [Exit.inBlock, Exit.then])
  have k6 := (Boxed.new (w.alloc (.cells #[.int .i64 top] 3)) 4 (.bool false)).alloc (.cells #[.nilFunc] 58)
  rw [World.size_alloc] at k6
  have kc := k6.cell
  refine bodyPost_ret (v := .bool false) ?_ rfl ?_
  · simp [results, Try.f29, go_sem, kc]
  · exact ⟨rfl, (((Below.refl _ w).alloc (Nat.le_refl _) _).alloc (by simp) _).alloc (by simp; omega) _⟩

set_option maxHeartbeats 2000000 in
theorem IsTrue_no2 {tb : Bool} (s : ByteArray) (kd : Nat) (n top : Int) (w : World) (hk : KindIs s kd) (ht : inR top 0 5 = tb) (hno : (inR n 1 3 && tb) = false) :
    Calls Try.prog 29 #[.string s, .int .i64 n, .int .i64 top] w (BoolAt w false) := by
  have qf := run_eql_func
  have hT := isTop_any top
  rw [ht] at hT
  have hno2 : n < 1 ∨ (¬ n < 1 ∧ 3 < n) ∨ (¬ n < 1 ∧ ¬ 3 < n ∧ tb = false) := by
    cases tb
    · have : n < 1 ∨ ¬ n < 1 := by omega
      have : 3 < n ∨ ¬ 3 < n := by omega
      simp; omega
    · have := hno
      simp only [Bool.and_true, inR, Bool.and_eq_false_iff, decide_eq_false_iff_not] at this
      omega
  clear hno ht
  go_enter Try.func29, Try.ntmps29
  go_wp2_with fail
  refine (saleOf_yes s kd _ hk).mono ?_
  rintro e w1 ⟨f, rfl, hF, hb1⟩
  obtain ⟨gg, bb, rfl⟩ : ∃ g b, f = .func (.func g) #[] b := by
    rcases hF with ⟨_, _, rb, rfl, _⟩ | ⟨_, rfl⟩
    · exact ⟨_, _, rfl⟩
    · exact ⟨_, _, rfl⟩
  have k5 := (Boxed.new w 3 (.int .i64 top)).alloc (.cells #[.bool false] 4)
  have k6 := Boxed.new (w.alloc (.cells #[.int .i64 top] 3)) 4 (.bool false)
  rw [World.size_alloc] at k6
  have hs1 : w.heap.size + 2 ≤ w1.heap.size := by have := hb1.size; simp at this; omega
  have x5 : Boxed w1 w.heap.size 3 (.int .i64 top) := (hb1.block _ (by simp; omega)).trans k5
  have x6 : Boxed w1 (w.heap.size + 1) 4 (.bool false) := (hb1.block _ (by simp)).trans k6
  have c5 : ∀ o, (w1.alloc o).cell? ⟨w.heap.size, 0, none⟩ = some (.int .i64 top) := fun o => (x5.alloc o).cell
  have c6 : ∀ o, (w1.alloc o).cell? ⟨w.heap.size + 1, 0, none⟩ = some (.bool false) := fun o => (x6.alloc o).cell
  have f6 : ∀ o, (w1.alloc o).frozen? ⟨w.heap.size + 1, 0, none⟩ = false := fun o => (x6.alloc o).frozen
  have hB1 : Below w.heap.size w w1 := (((Below.refl _ w).alloc (Nat.le_refl _) _).alloc (by simp) _).trans (hb1.mono (by simp; omega))
  have k7 := ((x6.alloc (.cells #[.func (.func gg) #[] bb] 58)).set (.bool false)).cell
  have HB2 : Below w.heap.size w ((w1.alloc (.cells #[.func (.func gg) #[] bb] 58)).setCell ⟨w.heap.size + 1, 0, none⟩ (.bool false)) := (hB1.alloc (by omega) _).setCell (p := ⟨w.heap.size + 1, 0, none⟩) (by simp) _
  clear k5 k6 x5 x6 hb1 hF
  rcases hno2 with h1 | ⟨h1, h2⟩ | ⟨h1, h2, rfl⟩
  · go_wp2
    (try simp only [Exit.inBlock, Exit.then])
    refine bodyPost_ret (v := .bool false) ?_ rfl ?_
    · simp [results, Try.f29, go_sem, k7]
    · exact ⟨rfl, HB2⟩
  · go_wp2
    (try simp only [Exit.inBlock, Exit.then])
    refine bodyPost_ret (v := .bool false) ?_ rfl ?_
    · simp [results, Try.f29, go_sem, k7]
    · exact ⟨rfl, HB2⟩
  · go_wp2_with (go_at_call 62; refine (hT _).mono ?_; rintro e w2 ⟨rfl, rfl⟩)
    (try simp only [Exit.inBlock, Exit.then])
    refine bodyPost_ret (v := .bool false) ?_ rfl ?_
    · simp [results, Try.f29, go_sem, k7]
    · exact ⟨rfl, HB2⟩

theorem IsTrue_both (s : ByteArray) (n top : Int) :
    ∃ b : Bool, (∀ w, Calls Try.prog 30 #[.string s, .int .i64 n, .int .i64 top] w (BoolAt w b)) ∧
      (∀ w, Calls Try.prog 29 #[.string s, .int .i64 n, .int .i64 top] w (BoolAt w b)) ∧
      (∀ kd, KindIs s kd → inR n 1 3 = true → inR top 0 5 = true → b = isTrueF kd n.toNat top.toNat) ∧ ((inR n 1 3 && inR top 0 5) = false → b = false) ∧ (NoKind s → b = false) := by
  rcases kind_cases s with ⟨kd, hk⟩ | hk
  · by_cases hg : (inR n 1 3 && inR top 0 5) = true
    · simp only [Bool.and_eq_true] at hg
      have h1 := inR_true.1 hg.1
      have h2 := inR_true.1 hg.2
      obtain ⟨j, rfl⟩ := Int.eq_ofNat_of_zero_le (show 0 ≤ n by omega)
      obtain ⟨t, rfl⟩ := Int.eq_ofNat_of_zero_le h2.1
      refine ⟨isTrueF kd j t, fun w => SIsTrue_yes s kd j t w hk (by omega) (by omega) (by omega), fun w => IsTrue_yes s kd j t w hk (by omega) (by omega) (by omega), ?_, ?_, ?_⟩
      · intro kd' hk' _ _
        rw [kind_one hk hk']; rfl
      · intro h; rw [hg.1, hg.2] at h; cases h
      · intro h; exact absurd hk (no_kind h kd)
    · have hg' : (inR n 1 3 && inR top 0 5) = false := by simpa using hg
      refine ⟨false, fun w => SIsTrue_no s n top w (validKind_yes s kd w hk) rfl rfl (by simpa using hg'), fun w => IsTrue_no2 s kd n top w hk rfl hg', ?_, fun _ => rfl, fun _ => rfl⟩
      intro _ _ h1 h2
      rw [h1, h2] at hg'; cases hg'
  · refine ⟨false, fun w => SIsTrue_no s n top w (validKind_no s w hk) rfl rfl rfl, fun w => IsTrue_no1 s n top w hk, ?_, fun _ => rfl, fun _ => rfl⟩
    intro kd hk' _ _
    exact absurd hk' (no_kind hk kd)

end Go.Proofs.Ytcbhjcbbjegmiaa
