/-
  Chapter 2: at whatever weights the program's ValidWeights, RevenueAt and BestPrice answer as the model's.
-/
import Derived.Test.YtoipjhdnmiomeabCb
namespace Go.Proofs.Ytoipjhdnmiomeab
open Go.RowKit

/-- The answer v, and what was there is as it was. -/
def AnsIs (w : World) (v : Value) (e : Ending) (w' : World) : Prop := e = .returned v ∧ Below w.heap.size w w'
theorem AnsIs.of_same {w : World} {v : Value} {e : Ending} {w' : World} (h : e = .returned v ∧ w = w') : AnsIs w v e w' := ⟨h.1, h.2 ▸ Below.refl _ _⟩

theorem BestPrice_both (xs : List Int) (hl : xs.length ≤ 1048576) : ∃ v,
    (∀ A c w, Rd w A c xs → Calls Try.prog 10 #[.slice A xs.length c] w (AnsIs w (.int .i64 v))) ∧
    (∀ A c w, Rd w A c xs → xs.length ≤ c → Calls Try.prog 12 #[.slice A xs.length c] w (AnsIs w (.int .i64 v))) :=
  ⟨bestP xs, fun A c w h => (SBestPrice_any A c xs w h hl).mono fun _ _ => AnsIs.of_same, fun A c w h hc => (BestPrice_any A c xs w h hc hl).mono fun _ _ => AnsIs.of_same⟩

end Go.Proofs.Ytoipjhdnmiomeab
