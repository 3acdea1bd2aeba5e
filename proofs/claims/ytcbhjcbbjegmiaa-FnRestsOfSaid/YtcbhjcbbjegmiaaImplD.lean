/-
  Chapter 1: SaleBy of the program and of the model hand back the same, whatever the arguments.
-/
import Derived.Test.YtcbhjcbbjegmiaaImplC
import Derived.Test.YtcbhjcbbjegmiaaMark
namespace Go.Proofs.Ytcbhjcbbjegmiaa
open Go.RowKit

/-- A number and a slice in memory of the call's own. -/
def ResIs (w : World) (a : Int) (P : List Int) (e : Ending) (w' : World) : Prop :=
  ∃ A c, e = .returned (.tuple #[.int .i64 a, .slice A P.length c]) ∧ Own w' w.heap.size A c P ∧ Below w.heap.size w w'

theorem SaleIs.res {w w' : World} {xs : List Int} {kd : Nat} {r : Int} {e : Ending} (h : SaleIs w xs kd r e w') : ResIs w (atOf xs r) (payOf kd xs r) e w' := by
  obtain ⟨g, c, he, ho, hb⟩ := h
  exact ⟨some ⟨g, 0, none⟩, c, by rw [he, payOf_len], ho, hb⟩
theorem NoSale.res {w w' : World} {e : Ending} (h : NoSale e) (hb : Below w.heap.size w w') : ResIs w (-1) [] e w' :=
  ⟨none, 0, h, own_none _ _, hb⟩

theorem SaleBy_no1 (s : ByteArray) (A : Option Addr) (c : Nat) (xs : List Int) (r : Int) (w : World) (hk : NoKind s) :
    Calls Try.prog 16 #[.string s, .slice A xs.length c, .int .i64 r] w fun e w' => NoSale e ∧ w = w' := by
  have qf := run_eql_nilFunc
  go_enter Try.func16, Try.ntmps16
  go_wp2_with fail
  refine (saleOf_no s _ hk).mono ?_
  rintro e w1 ⟨rfl, rfl⟩
  go_wp2
  go_ret2
  exact ⟨rfl, rfl⟩

set_option maxHeartbeats 400000 in
theorem SaleBy_no2 {vb rb : Bool} (s : ByteArray) (kd : Nat) (A : Option Addr) (c : Nat) (xs : List Int) (r : Int) (w : World) (hk : KindIs s kd)
    (h : Rd w A c xs) (hl : xs.length ≤ 1099511627776) (hv : vB xs = vb) (hr : inR r 0 30 = rb) (hno : (vb && rb) = false) :
    Calls Try.prog 16 #[.string s, .slice A xs.length c, .int .i64 r] w fun e w' => NoSale e ∧ Below w.heap.size w w' := by
  have HV : ∀ w1, Below w.heap.size w w1 → Hid (Calls Try.prog 38 #[.slice A xs.length c] w1 fun e w' => e = .returned (.bool vb) ∧ w1 = w') :=
    fun w1 hb => Lib.hid ((ValidBids_any A c xs w1 (h.below hb) hl).mono (R' := fun e w' => e = .returned (.bool vb) ∧ w1 = w') (by rw [hv]; exact fun _ _ h => h))
  have HR : ∀ w1, Hid (Calls Try.prog 47 #[.int .i64 r] w1 fun e w' => e = .returned (.bool rb) ∧ w1 = w') :=
    fun w1 => Lib.hid ((isBid_any r w1).mono (R' := fun e w' => e = .returned (.bool rb) ∧ w1 = w') (by rw [hr]; exact fun _ _ h => h))
  clear hv hr h
  have qf := run_eql_func
  cases vb <;> cases rb <;> first
    | (exact absurd hno (by decide))
    | (clear hno
       go_enter Try.func16, Try.ntmps16
       go_wp2_with fail
       refine (saleOf_yes s kd _ hk).mono ?_
       rintro e w1 ⟨v, rfl, hF, hb1⟩
       rcases hF with ⟨hk1, hk2, rb, rfl, hc⟩ | ⟨rfl, rfl⟩
       all_goals
         have HV1 := HV w1 hb1
         have HR1 := HR w1
         clear HV HR
         go_wp2_with (first
           | (go_at_call 38; refine HV1.out.mono ?_; rintro e w2 ⟨rfl, rfl⟩)
           | (go_at_call 47; refine HR1.out.mono ?_; rintro e w2 ⟨rfl, rfl⟩))
         go_ret2
         exact ⟨rfl, hb1⟩)

theorem SaleBy_both (s : ByteArray) (xs : List Int) (r : Int) (hl : xs.length ≤ 1048576) :
    ∃ (a : Int) (P : List Int), P.length ≤ 1048576 ∧
      (∀ A c w, Rd w A c xs → Calls Try.prog 17 #[.string s, .slice A xs.length c, .int .i64 r] w (ResIs w a P)) ∧
      (∀ A c w, Rd w A c xs → Calls Try.prog 16 #[.string s, .slice A xs.length c, .int .i64 r] w (ResIs w a P)) := by
  have hl2 : xs.length ≤ 1099511627776 := by omega
  rcases kind_cases s with ⟨kd, hk⟩ | hk
  · cases hv : vB xs with
    | true =>
      cases hr : inR r 0 30 with
      | true =>
        exact ⟨atOf xs r, payOf kd xs r, by rw [payOf_len]; exact hl,
          fun A c w h => (SSaleBy_yes s kd A c xs r w hk h hv hr).mono fun _ _ h => h.res,
          fun A c w h => (SaleBy_yes s kd A c xs r w hk h hv hr).mono fun _ _ h => h.res⟩
      | false =>
        exact ⟨-1, [], by simp,
          fun A c w h => (SSaleBy_no s A c xs r w (validKind_yes s kd w hk) h hl2 hv hr rfl).mono fun _ _ h => h.1.res (h.2 ▸ Below.refl _ _),
          fun A c w h => (SaleBy_no2 s kd A c xs r w hk h hl2 hv hr rfl).mono fun _ _ h => h.1.res h.2⟩
    | false =>
      exact ⟨-1, [], by simp,
        fun A c w h => (SSaleBy_no s A c xs r w (validKind_yes s kd w hk) h hl2 hv rfl rfl).mono fun _ _ h => h.1.res (h.2 ▸ Below.refl _ _),
        fun A c w h => (SaleBy_no2 s kd A c xs r w hk h hl2 hv rfl rfl).mono fun _ _ h => h.1.res h.2⟩
  · exact ⟨-1, [], by simp,
      fun A c w h => (SSaleBy_no s A c xs r w (validKind_no s w hk) h hl2 rfl rfl rfl).mono fun _ _ h => h.1.res (h.2 ▸ Below.refl _ _),
      fun A c w h => (SaleBy_no1 s A c xs r w hk).mono fun _ _ h => h.1.res (h.2 ▸ Below.refl _ _)⟩

end Go.Proofs.Ytcbhjcbbjegmiaa
