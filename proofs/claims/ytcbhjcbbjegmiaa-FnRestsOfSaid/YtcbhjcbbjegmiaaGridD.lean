/-
  Chapter 1: RestsOf at whatever arguments, of the model and of the program.
-/
import Derived.Test.YtcbhjcbbjegmiaaGridC
import Derived.Test.YtcbhjcbbjegmiaaRestF
namespace Go.Proofs.Ytcbhjcbbjegmiaa
open Go.RowKit Go.Shelf

theorem GridIs.nil (w w' : World) (h : Below w.heap.size w w') : GridIs w [] (.returned (.slice none 0 0)) w' := ⟨_, [], rfl, RowsIn.nil _ _, rfl, h⟩

set_option maxHeartbeats 1000000 in
theorem SRestsOf_no {kb vb lb tb : Bool} (s : ByteArray) (A : Option Addr) (c : Nat) (vs : List Int) (top : Int) (w : World)
    (hk : Calls Try.prog 49 #[.string s] w fun e w' => e = .returned (.bool kb) ∧ w = w')
    (h : Rd w A c vs) (hl : vs.length ≤ 1099511627776) (hv : vB vs = vb) (hlb : decide ((3 : Int) < (vs.length : Int)) = lb) (ht : inR top 0 5 = tb) (hno : (kb && vb && !lb && tb) = false) :
    Calls Try.prog 34 #[.string s, .slice A vs.length c, .int .i64 top] w (GridIs w []) := by
  have HV := Lib.hid ((validBids_any A c vs w h hl).mono (R' := fun e w' => e = .returned (.bool vb) ∧ w = w') (by rw [hv]; exact fun _ _ h => h))
  have HT := Lib.hid ((inRange_any top 0 5 w).mono (R' := fun e w' => e = .returned (.bool tb) ∧ w = w') (by rw [ht]; exact fun _ _ h => h))
  have HK := Lib.hid hk
  clear hk hv ht h
  cases kb <;> cases vb <;> cases lb <;> cases tb <;> first
    | (exact absurd hno (by decide))
    | (clear hno
       go_enter Try.func34, Try.ntmps34
       go_wp2_with (first
         | (go_at_call 49; refine HK.out.mono ?_; rintro e w1 ⟨rfl, rfl⟩)
         | (go_at_call 50; refine HV.out.mono ?_; rintro e w1 ⟨rfl, rfl⟩)
         | (go_at_call 51; refine HT.out.mono ?_; rintro e w1 ⟨rfl, rfl⟩))
       go_ret
       exact GridIs.nil _ _ (Below.refl _ _))

theorem RestsOf_no1 (s : ByteArray) (A : Option Addr) (c : Nat) (vs : List Int) (top : Int) (w : World) (hk : NoKind s) :
    Calls Try.prog 32 #[.string s, .slice A vs.length c, .int .i64 top] w (GridIs w []) := by
  have qf := run_eql_nilFunc
  go_enter Try.func32, Try.ntmps32
  go_wp2_with fail
  refine (saleOf_no s _ hk).mono ?_
  rintro e w1 ⟨rfl, rfl⟩
  go_wp2
  go_ret
  exact GridIs.nil _ _ ((((Below.refl _ w).alloc (Nat.le_refl _) _).alloc (by simp) _).alloc (by simp; omega) _)

set_option maxHeartbeats 2000000 in
theorem RestsOf_no2 {vb lb tb : Bool} (s : ByteArray) (kd : Nat) (A : Option Addr) (c : Nat) (vs : List Int) (top : Int) (w : World) (hk : KindIs s kd)
    (h : Rd w A c vs) (hl : vs.length ≤ 1099511627776) (hv : vB vs = vb) (hlb : decide ((3 : Int) < (vs.length : Int)) = lb) (ht : inR top 0 5 = tb) (hno : (vb && !lb && tb) = false) :
    Calls Try.prog 32 #[.string s, .slice A vs.length c, .int .i64 top] w (GridIs w []) := by
  have qf := run_eql_func
  have HT : ∀ w1, Hid (Calls Try.prog 62 #[.int .i64 top] w1 fun e w' => e = .returned (.bool tb) ∧ w1 = w') := fun w1 =>
    Lib.hid ((isTop_any top w1).mono (R' := fun e w' => e = .returned (.bool tb) ∧ w1 = w') (by rw [ht]; exact fun _ _ h => h))
  cases vb <;> cases lb <;> cases tb <;> first
    | (exact absurd hno (by decide))
    | (clear hno ht
       go_enter Try.func32, Try.ntmps32
       go_wp2_with fail
       refine (saleOf_yes s kd _ hk).mono ?_
       rintro e w1 ⟨f, rfl, hF, hb1⟩
       obtain ⟨gg, bb, rfl⟩ : ∃ g b, f = .func (.func g) #[] b := by
         rcases hF with ⟨_, _, rb, rfl, _⟩ | ⟨_, rfl⟩
         · exact ⟨_, _, rfl⟩
         · exact ⟨_, _, rfl⟩
       have k4 := (Boxed.new w 23 (.slice A vs.length c)).alloc (.cells #[.int .i64 top] 3)
       have k5 := Boxed.new (w.alloc (.cells #[.slice A vs.length c] 23)) 3 (.int .i64 top)
       rw [World.size_alloc] at k5
       have x4 : Boxed w1 w.heap.size 23 (.slice A vs.length c) := (hb1.block _ (by simp; omega)).trans k4
       have x5 : Boxed w1 (w.heap.size + 1) 3 (.int .i64 top) := (hb1.block _ (by simp)).trans k5
       have c4 : ∀ o, (w1.alloc o).cell? ⟨w.heap.size, 0, none⟩ = some (.slice A vs.length c) := fun o => (x4.alloc o).cell
       have c5 : ∀ o, (w1.alloc o).cell? ⟨w.heap.size + 1, 0, none⟩ = some (.int .i64 top) := fun o => (x5.alloc o).cell
       have hB1 : Below w.heap.size w w1 := (((Below.refl _ w).alloc (Nat.le_refl _) _).alloc (by simp) _).trans (hb1.mono (by simp; omega))
       have HB2 := fun o => hB1.alloc hB1.size o
       have HV : ∀ o, Hid (Calls Try.prog 38 #[.slice A vs.length c] (w1.alloc o) fun e w' => e = .returned (.bool (vB vs)) ∧ w1.alloc o = w') := fun o =>
         Lib.hid (ValidBids_any A c vs (w1.alloc o) (h.below (hB1.alloc hB1.size o)) hl)
       rw [hv] at HV
       clear k4 k5 x4 x5 hb1 hF hv h
       go_wp2_with (first
         | (go_at_call 38; refine (HV _).out.mono ?_; rintro e w2 ⟨rfl, rfl⟩)
         | (go_at_call 62; refine (HT _).out.mono ?_; rintro e w2 ⟨rfl, rfl⟩))
       go_ret
       exact GridIs.nil _ _ (HB2 _))

theorem RestsOf_both (s : ByteArray) (vs : List Int) (top : Int) (hl : vs.length ≤ 1048576) :
    ∃ rs : List (List Int), (∀ A c w, Rd w A c vs → Calls Try.prog 34 #[.string s, .slice A vs.length c, .int .i64 top] w (GridIs w rs)) ∧
      (∀ A c w, Rd w A c vs → Calls Try.prog 32 #[.string s, .slice A vs.length c, .int .i64 top] w (GridIs w rs)) ∧
      ((∃ (kd t : Nat), KindIs s kd ∧ vB vs = true ∧ vs.length ≤ 3 ∧ top = (t : Int) ∧ t ≤ 5 ∧ rs = restsF kd vs vs.length t) ∨ rs = []) := by
  have hl2 : vs.length ≤ 1099511627776 := by omega
  rcases kind_cases s with ⟨kd, hk⟩ | hk
  · by_cases hg : (vB vs && !(decide ((3 : Int) < (vs.length : Int))) && inR top 0 5) = true
    · simp only [Bool.and_eq_true, Bool.not_eq_true', decide_eq_false_iff_not] at hg
      obtain ⟨⟨hv, h3⟩, ht⟩ := hg
      have htt := inR_true.1 ht
      obtain ⟨t, rfl⟩ := Int.eq_ofNat_of_zero_le htt.1
      exact ⟨_, fun A c w h => SRestsOf_yes s kd A c vs t w hk h hv (by omega) (by omega), fun A c w h => RestsOf_yes s kd A c vs t w hk h hv (by omega) (by omega), .inl ⟨kd, t, hk, hv, by omega, rfl, by omega, rfl⟩⟩
    · have hg' : (vB vs && !(decide ((3 : Int) < (vs.length : Int))) && inR top 0 5) = false := by simpa using hg
      exact ⟨[], fun A c w h => SRestsOf_no s A c vs top w (validKind_yes s kd w hk) h hl2 rfl rfl rfl (by simpa using hg'), fun A c w h => RestsOf_no2 s kd A c vs top w hk h hl2 rfl rfl rfl hg', .inr rfl⟩
  · exact ⟨[], fun A c w h => SRestsOf_no s A c vs top w (validKind_no s w hk) h hl2 rfl rfl rfl rfl, fun A c w _ => RestsOf_no1 s A c vs top w hk, .inr rfl⟩

end Go.Proofs.Ytcbhjcbbjegmiaa
