/-
  Chapter 5: both sides of GainTold, at whatever arguments.
-/
import Derived.Test.YtdbpjlconbifpaaZk
namespace Go.Proofs.Ytdbpjlconbifpaa
open Go.RowKit

theorem hb_iff {ts : List (List Int)} {i : Int} : hbB ts i = true ↔ VTs ts ∧ 0 ≤ i ∧ i < (ts.length : Int) := by
  unfold hbB
  rw [Bool.and_eq_true, vtsB_iff, inR_true]
  constructor
  · rintro ⟨h1, h2, h3⟩; exact ⟨h1, h2, by omega⟩
  · rintro ⟨h1, h2, h3⟩; exact ⟨h1, h2, by omega⟩
theorem GainTold_both (rows : List (List Int)) (i : Int) (told : List Int) : ∃ (x : Int) (b : Bool), (rows.length ≤ 1099511627776 → (∀ r ∈ rows, r.length ≤ 1099511627776) → told.length ≤ 1099511627776 →
    (∀ A T c d w, RdR w A c rows → Rd w T d told → told.length ≤ d → Calls Try.prog 26 #[.slice A rows.length c, .int .i64 i, .slice T told.length d] w (GnIs w x b)) ∧
    (∀ A T c d w, RdR w A c rows → Rd w T d told → told.length ≤ d → Calls Try.prog 25 #[.slice A rows.length c, .int .i64 i, .slice T told.length d] w (GnIs w x b))) := by
  cases hf : hbB rows i && vt told with
  | false => exact ⟨0, false, fun hl hl2 hl3 => ⟨fun A T c d w h1 h2 _ => SGainTold_no A T c d i rows told w h1 h2 hl hl2 hl3 hf, fun A T c d w h1 h2 _ => GainTold_no A T c d i rows told w h1 h2 hl2 hl3 hf⟩⟩
  | true =>
    rw [Bool.and_eq_true, hb_iff, vt_iff] at hf
    obtain ⟨⟨hv, h0, h1⟩, ht⟩ := hf
    obtain ⟨k, rfl⟩ := Int.eq_ofNat_of_zero_le h0
    have hk : k < rows.length := by omega
    exact ⟨gtF rows k told, true, fun _ hl2 _ => ⟨fun A T c d w h1 h2 h3 => SGainTold_yes A T c d k rows told w h1 h2 h3 hl2 hv hk ht, fun A T c d w h1 h2 h3 => GainTold_yes A T c d k rows told w h1 h2 h3 hl2 hv hk ht⟩⟩

end Go.Proofs.Ytdbpjlconbifpaa
