/-
  Lists of three prices compared.
-/
import Derived.Test.YtfjncipekjnbjabJk
import Derived.ChangeKeysEq
namespace Go.Proofs.Ytfjncipekjnbjab
open Go.RowKit

/-- What comparing two price lists tells. -/
theorem run_eq3 (a b : List Int) (w : World) : (Op.equalIn 10000 69 (.agg #[.int .i64 (T a 0), .int .i64 (T a 1), .int .i64 (T a 2)]) (.agg #[.int .i64 (T b 0), .int .i64 (T b 1), .int .i64 (T b 2)])).run Try.prog w = .ok (T a 0 == T b 0 && (T a 1 == T b 1 && T a 2 == T b 2)) w := by
  obtain ⟨i0, hi, _, _, _⟩ := info_parts int_info
  have hc : Try.prog.cellsOf 3 = 1 := by kernel_rfl
  have hu := Try.underlying69
  generalize T a 0 = a0
  generalize T a 1 = a1
  generalize T a 2 = a2
  generalize T b 0 = b0
  generalize T b 1 = b1
  generalize T b 2 = b2
  rw [run_equalIn_array w 9999 _ _ hu hi, hc]
  show (Op.eqItems 9999 3 1 _ _ [0, 1, 2]).run Try.prog w = _
  have he := fun (x y : Int) => run_equalIn_int (P := Try.prog) w 9998 3 .i64 .i64 x y Try.underlying3
  have hp := fun (v0 v1 v2 : Int) => (show (part 3 #[.int .i64 v0, .int .i64 v1, .int .i64 v2] 0).run Try.prog w = .ok (.int .i64 v0) w by simp [part, isAgg, run_underlying Try.underlying3])
  have hp1 := fun (v0 v1 v2 : Int) => (show (part 3 #[.int .i64 v0, .int .i64 v1, .int .i64 v2] 1).run Try.prog w = .ok (.int .i64 v1) w by simp [part, isAgg, run_underlying Try.underlying3])
  have hp2 := fun (v0 v1 v2 : Int) => (show (part 3 #[.int .i64 v0, .int .i64 v1, .int .i64 v2] 2).run Try.prog w = .ok (.int .i64 v2) w by simp [part, isAgg, run_underlying Try.underlying3])
  cases h0 : (a0 == b0) <;> cases h1 : (a1 == b1) <;> cases h2 : (a2 == b2) <;> simp [Op.eqItems, hp, hp1, hp2, he, h0, h1, h2]

end Go.Proofs.Ytfjncipekjnbjab
