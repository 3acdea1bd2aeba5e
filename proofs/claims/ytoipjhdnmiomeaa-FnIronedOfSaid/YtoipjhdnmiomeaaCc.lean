/-
  Chapter 2: at whatever weights the program's ValidWeights, RevenueAt and BestPrice answer as the model's.
-/
import Derived.Test.YtoipjhdnmiomeaaCb
namespace Go.Proofs.Ytoipjhdnmiomeaa
open Go.RowKit

/-- The answer v, and what was there is as it was. -/
def AnsIs (w : World) (v : Value) (e : Ending) (w' : World) : Prop := e = .returned v ∧ Below w.heap.size w w'
theorem AnsIs.of_same {w : World} {v : Value} {e : Ending} {w' : World} (h : e = .returned v ∧ w = w') : AnsIs w v e w' := ⟨h.1, h.2 ▸ Below.refl _ _⟩

theorem ValidWeights_both (xs : List Int) (hl : xs.length ≤ 1048576) : ∃ v,
    (∀ A c w, Rd w A c xs → Calls Try.prog 42 #[.slice A xs.length c] w (AnsIs w (.bool v))) ∧
    (∀ A c w, Rd w A c xs → xs.length ≤ c → Calls Try.prog 44 #[.slice A xs.length c] w (AnsIs w (.bool v))) :=
  ⟨vW xs, fun A c w h => (SValidWeights_any A c xs w h (by omega)).mono fun _ _ => AnsIs.of_same, fun A c w h _ => (ValidWeights_any A c xs w h (by omega)).mono fun _ _ => AnsIs.of_same⟩

theorem RevenueAt_both (xs : List Int) (p : Int) (hl : xs.length ≤ 1048576) : ∃ v,
    (∀ A c w, Rd w A c xs → Calls Try.prog 17 #[.slice A xs.length c, .int .i64 p] w (AnsIs w (.int .i64 v))) ∧
    (∀ A c w, Rd w A c xs → xs.length ≤ c → Calls Try.prog 16 #[.slice A xs.length c, .int .i64 p] w (AnsIs w (.int .i64 v))) :=
  ⟨revF xs p, fun A c w h => (SRevenueAt_any A c xs p w h hl).mono fun _ _ => AnsIs.of_same, fun A c w h hc => (RevenueAt_any A c xs p w h hc hl).mono fun _ _ => AnsIs.of_same⟩

theorem BestPrice_both (xs : List Int) (hl : xs.length ≤ 1048576) : ∃ v,
    (∀ A c w, Rd w A c xs → Calls Try.prog 21 #[.slice A xs.length c] w (AnsIs w (.int .i64 v))) ∧
    (∀ A c w, Rd w A c xs → xs.length ≤ c → Calls Try.prog 20 #[.slice A xs.length c] w (AnsIs w (.int .i64 v))) :=
  ⟨bestP xs, fun A c w h => (SBestPrice_any A c xs w h hl).mono fun _ _ => AnsIs.of_same, fun A c w h hc => (BestPrice_any A c xs w h hc hl).mono fun _ _ => AnsIs.of_same⟩

end Go.Proofs.Ytoipjhdnmiomeaa
