/-
  Chapter 1, the program: the contracts of SaleBy and isBidder.
-/
import Derived.Test.YtcbhjcbbjegmiabImplB
import Derived.Lib.SliceRun
namespace Go.Proofs.Ytcbhjcbbjegmiab
open Go.RowKit

theorem run_equalIn_func (w : World) (d : Nat) (fn : Fn) (a b : Array Value) :
    (Op.equalIn (d + 1) 36 (.func fn a b) .nilFunc).run Try.prog w = .ok false w := by
  simp [Op.equalIn, run_underlying Try.underlying36]
theorem run_eql_func (fn : Fn) (a b : Array Value) (w : World) :
    (binOp .eql 36 (.func fn a b) .nilFunc).run Try.prog w = .ok (.bool false) w := by
  simp only [binOp]
  simp [Op.equal, Op.maxDepth, run_equalIn_func w 9999]
theorem run_equalIn_nilFunc (w : World) (d : Nat) :
    (Op.equalIn (d + 1) 36 .nilFunc .nilFunc).run Try.prog w = .ok true w := by
  simp [Op.equalIn, run_underlying Try.underlying36]
theorem run_eql_nilFunc (w : World) :
    (binOp .eql 36 .nilFunc .nilFunc).run Try.prog w = .ok (.bool true) w := by
  simp only [binOp]
  simp [Op.equal, Op.maxDepth, run_equalIn_nilFunc w 9999]

end Go.Proofs.Ytcbhjcbbjegmiab
