/-
  No cell of these rows narrows 'for every input' (looked for: loops, veiled, ifaces, maps, wideKeys, modest, calm, conditions, laid).
  DERIVED. THE GIVEN ROWS OF THIS SEAT. 8 by the template 'for every input the law returns true; each argument reads behind the call as it read before'; 0 by the template 'total and deterministic' (their statements: YtnojlapjkdihmabTotals.lean).
  GIVEN WITH THE SEED: the statements are not yours to turn. If you find one false, say at which input.
  Laid BY PROGRAM, IN A SANDBOX (cutbox-rows.mjs): the forced cells as the released guide's own fill.sh prints them over the translation 8902d0cbc7f96d73… (all of the seat's roots in one cut). By AI agents, Wed Nov 11 2026. No macro, syntax, notation, axiom, sorry.
-/
import Derived.Test.YtnojlapjkdihmabChecked
import GoSem.Claim
import GoSem.ClaimJoined
import GoSem.ClaimMapViews
import Derived.JoinedTies
import Derived.KernelRfl
namespace Go.Proofs.Ytnojlapjkdihmab
/- THE CELL 'sum', in the pinned program and in every row, IS THE sha256 OF THE DUMP (.gsa) THAT YtnojlapjkdihmabProg.lean LOADS. Nothing in Lean hashes anything: it is a label: what it is worth is what the hold of that sum in a sandbox is worth. -/
noncomputable def Try.pinned : Pinned := { name := "ytnojlapjkdihmab", sum := "8902d0cbc7f96d73ca3cfed20a7b88df9bf74ebc82fc6997957a79e077329b1d", checked := Try.checked }
namespace Rows
def none {H : Type} : Left H := { results := [], args := [] }

/-- 'laws.FnExactValidStages': WHATEVER THE INPUT: true; the input reads as it did. -/
def fnExactValidStagesSpec : ChangeSpec := { name := "fnExactValidStages", fn := fun _ => fun
  | [d] => { results := [.lit (.bool true)], args := [d] }
  | _ => none }
def fnExactValidStagesRow : OpenClaim := { program := "ytnojlapjkdihmab", sum := "8902d0cbc7f96d73ca3cfed20a7b88df9bf74ebc82fc6997957a79e077329b1d", func := "loop.example/salesbybids/laws.FnExactValidStages", spec := "fnExactValidStages", unfollowed := true, recurses := true, apart := false }
def FnExactValidStagesSaid : Prop := fnExactValidStagesRow.holds Try.pinned (OpenSpec.ofChange fnExactValidStagesSpec)

/-- ITS FALSE NEIGHBOUR: 'it returns false'. Refute it at one input. -/
def fnExactValidStagesWrong : ChangeSpec := { name := "fnExactValidStages", fn := fun _ => fun
  | [d] => { results := [.lit (.bool false)], args := [d] }
  | _ => none }
def FnExactValidStagesWrongFalsely : Prop := fnExactValidStagesRow.holds Try.pinned (OpenSpec.ofChange fnExactValidStagesWrong)

/-- 'laws.FnExactBestSeen': WHATEVER THE INPUT: true; the input reads as it did. -/
def fnExactBestSeenSpec : ChangeSpec := { name := "fnExactBestSeen", fn := fun _ => fun
  | [d] => { results := [.lit (.bool true)], args := [d] }
  | _ => none }
def fnExactBestSeenRow : OpenClaim := { program := "ytnojlapjkdihmab", sum := "8902d0cbc7f96d73ca3cfed20a7b88df9bf74ebc82fc6997957a79e077329b1d", func := "loop.example/salesbybids/laws.FnExactBestSeen", spec := "fnExactBestSeen", unfollowed := true, recurses := true, apart := false }
def FnExactBestSeenSaid : Prop := fnExactBestSeenRow.holds Try.pinned (OpenSpec.ofChange fnExactBestSeenSpec)

/-- ITS FALSE NEIGHBOUR: 'it returns false'. Refute it at one input. -/
def fnExactBestSeenWrong : ChangeSpec := { name := "fnExactBestSeen", fn := fun _ => fun
  | [d] => { results := [.lit (.bool false)], args := [d] }
  | _ => none }
def FnExactBestSeenWrongFalsely : Prop := fnExactBestSeenRow.holds Try.pinned (OpenSpec.ofChange fnExactBestSeenWrong)

/-- 'laws.FnExactBestStop': WHATEVER THE INPUT: true; the input reads as it did. -/
def fnExactBestStopSpec : ChangeSpec := { name := "fnExactBestStop", fn := fun _ => fun
  | [d] => { results := [.lit (.bool true)], args := [d] }
  | _ => none }
def fnExactBestStopRow : OpenClaim := { program := "ytnojlapjkdihmab", sum := "8902d0cbc7f96d73ca3cfed20a7b88df9bf74ebc82fc6997957a79e077329b1d", func := "loop.example/salesbybids/laws.FnExactBestStop", spec := "fnExactBestStop", unfollowed := true, recurses := true, apart := false }
def FnExactBestStopSaid : Prop := fnExactBestStopRow.holds Try.pinned (OpenSpec.ofChange fnExactBestStopSpec)

/-- ITS FALSE NEIGHBOUR: 'it returns false'. Refute it at one input. -/
def fnExactBestStopWrong : ChangeSpec := { name := "fnExactBestStop", fn := fun _ => fun
  | [d] => { results := [.lit (.bool false)], args := [d] }
  | _ => none }
def FnExactBestStopWrongFalsely : Prop := fnExactBestStopRow.holds Try.pinned (OpenSpec.ofChange fnExactBestStopWrong)

/-- 'laws.FnExactStopAt': WHATEVER THE INPUT: true; the input reads as it did. -/
def fnExactStopAtSpec : ChangeSpec := { name := "fnExactStopAt", fn := fun _ => fun
  | [d1, d2, d3] => { results := [.lit (.bool true)], args := [d1, d2, d3] }
  | _ => none }
def fnExactStopAtRow : OpenClaim := { program := "ytnojlapjkdihmab", sum := "8902d0cbc7f96d73ca3cfed20a7b88df9bf74ebc82fc6997957a79e077329b1d", func := "loop.example/salesbybids/laws.FnExactStopAt", spec := "fnExactStopAt", unfollowed := true, recurses := true, apart := false }
def FnExactStopAtSaid : Prop := fnExactStopAtRow.holds Try.pinned (OpenSpec.ofChange fnExactStopAtSpec)

/-- ITS FALSE NEIGHBOUR: 'it returns false'. Refute it at one input. -/
def fnExactStopAtWrong : ChangeSpec := { name := "fnExactStopAt", fn := fun _ => fun
  | [d1, d2, d3] => { results := [.lit (.bool false)], args := [d1, d2, d3] }
  | _ => none }
def FnExactStopAtWrongFalsely : Prop := fnExactStopAtRow.holds Try.pinned (OpenSpec.ofChange fnExactStopAtWrong)

/-- 'laws.FnExactHalfStop': WHATEVER THE INPUT: true; the input reads as it did. -/
def fnExactHalfStopSpec : ChangeSpec := { name := "fnExactHalfStop", fn := fun _ => fun
  | [d] => { results := [.lit (.bool true)], args := [d] }
  | _ => none }
def fnExactHalfStopRow : OpenClaim := { program := "ytnojlapjkdihmab", sum := "8902d0cbc7f96d73ca3cfed20a7b88df9bf74ebc82fc6997957a79e077329b1d", func := "loop.example/salesbybids/laws.FnExactHalfStop", spec := "fnExactHalfStop", unfollowed := true, recurses := true, apart := false }
def FnExactHalfStopSaid : Prop := fnExactHalfStopRow.holds Try.pinned (OpenSpec.ofChange fnExactHalfStopSpec)

/-- ITS FALSE NEIGHBOUR: 'it returns false'. Refute it at one input. -/
def fnExactHalfStopWrong : ChangeSpec := { name := "fnExactHalfStop", fn := fun _ => fun
  | [d] => { results := [.lit (.bool false)], args := [d] }
  | _ => none }
def FnExactHalfStopWrongFalsely : Prop := fnExactHalfStopRow.holds Try.pinned (OpenSpec.ofChange fnExactHalfStopWrong)

/-- 'laws.FnExactSkipWins': WHATEVER THE INPUT: true; the input reads as it did. -/
def fnExactSkipWinsSpec : ChangeSpec := { name := "fnExactSkipWins", fn := fun _ => fun
  | [d1, d2] => { results := [.lit (.bool true)], args := [d1, d2] }
  | _ => none }
def fnExactSkipWinsRow : OpenClaim := { program := "ytnojlapjkdihmab", sum := "8902d0cbc7f96d73ca3cfed20a7b88df9bf74ebc82fc6997957a79e077329b1d", func := "loop.example/salesbybids/laws.FnExactSkipWins", spec := "fnExactSkipWins", apart := false }
def FnExactSkipWinsSaid : Prop := fnExactSkipWinsRow.holds Try.pinned (OpenSpec.ofChange fnExactSkipWinsSpec)

/-- ITS FALSE NEIGHBOUR: 'it returns false'. Refute it at one input. -/
def fnExactSkipWinsWrong : ChangeSpec := { name := "fnExactSkipWins", fn := fun _ => fun
  | [d1, d2] => { results := [.lit (.bool false)], args := [d1, d2] }
  | _ => none }
def FnExactSkipWinsWrongFalsely : Prop := fnExactSkipWinsRow.holds Try.pinned (OpenSpec.ofChange fnExactSkipWinsWrong)

/-- 'laws.FnExactSkipTried': WHATEVER THE INPUT: true; the input reads as it did. -/
def fnExactSkipTriedSpec : ChangeSpec := { name := "fnExactSkipTried", fn := fun _ => fun
  | [d1, d2] => { results := [.lit (.bool true)], args := [d1, d2] }
  | _ => none }
def fnExactSkipTriedRow : OpenClaim := { program := "ytnojlapjkdihmab", sum := "8902d0cbc7f96d73ca3cfed20a7b88df9bf74ebc82fc6997957a79e077329b1d", func := "loop.example/salesbybids/laws.FnExactSkipTried", spec := "fnExactSkipTried", unfollowed := true, recurses := true, apart := false }
def FnExactSkipTriedSaid : Prop := fnExactSkipTriedRow.holds Try.pinned (OpenSpec.ofChange fnExactSkipTriedSpec)

/-- ITS FALSE NEIGHBOUR: 'it returns false'. Refute it at one input. -/
def fnExactSkipTriedWrong : ChangeSpec := { name := "fnExactSkipTried", fn := fun _ => fun
  | [d1, d2] => { results := [.lit (.bool false)], args := [d1, d2] }
  | _ => none }
def FnExactSkipTriedWrongFalsely : Prop := fnExactSkipTriedRow.holds Try.pinned (OpenSpec.ofChange fnExactSkipTriedWrong)

/-- 'laws.FnExactBestSkip': WHATEVER THE INPUT: true; the input reads as it did. -/
def fnExactBestSkipSpec : ChangeSpec := { name := "fnExactBestSkip", fn := fun _ => fun
  | [d] => { results := [.lit (.bool true)], args := [d] }
  | _ => none }
def fnExactBestSkipRow : OpenClaim := { program := "ytnojlapjkdihmab", sum := "8902d0cbc7f96d73ca3cfed20a7b88df9bf74ebc82fc6997957a79e077329b1d", func := "loop.example/salesbybids/laws.FnExactBestSkip", spec := "fnExactBestSkip", apart := false }
def FnExactBestSkipSaid : Prop := fnExactBestSkipRow.holds Try.pinned (OpenSpec.ofChange fnExactBestSkipSpec)

/-- ITS FALSE NEIGHBOUR: 'it returns false'. Refute it at one input. -/
def fnExactBestSkipWrong : ChangeSpec := { name := "fnExactBestSkip", fn := fun _ => fun
  | [d] => { results := [.lit (.bool false)], args := [d] }
  | _ => none }
def FnExactBestSkipWrongFalsely : Prop := fnExactBestSkipRow.holds Try.pinned (OpenSpec.ofChange fnExactBestSkipWrong)

/- THE SECOND FORM. 'bulk': how many values and letters a reading holds, each counted each time it is reached (what is shared counts as often as it is met; a slice's spare places count too). A statement '..UptoSaid' is the law's where the arguments, and the package variables that the reading takes, are together of bulk at most 1048576: NARROWER than '..Said'. Prove '..Said' where nothing that the law and all that it calls make is longer than what came in: it says more and counts as full. Else prove '..UptoSaid'. A law counts once. -/
mutual
def uptoBulk {H : Type} : DataW H → Nat
  | .lit (.string bytes) => bytes.length + 1
  | .lit _ => 1
  | .nil => 1
  | .ptr d => uptoBulk d + 1
  | .slice elems spare => uptoBulkAll elems + uptoBulkAll spare + 1
  | .agg parts => uptoBulkAll parts + 1
  | .iface _ d => uptoBulk d + 1
  | .map entries => uptoBulkEntries entries + 1
  | .held _ => 1
def uptoBulkAll {H : Type} : List (DataW H) → Nat
  | [] => 0
  | d :: r => uptoBulk d + uptoBulkAll r
def uptoBulkEntries {H : Type} : List (Lit × DataW H) → Nat
  | [] => 0
  | x :: r => uptoBulkEntry x + uptoBulkEntries r
def uptoBulkEntry {H : Type} : Lit × DataW H → Nat
  | (.string bytes, d) => bytes.length + uptoBulk d + 1
  | (_, d) => uptoBulk d + 1
 end
def uptoSmall : (H : Type) → List (DataW H) → Bool := fun _ ds => decide (uptoBulkAll ds ≤ 1048576)
def OpenSpec.upto (s : _root_.Go.ChangeSpec) : _root_.Go.OpenSpec := { _root_.Go.OpenSpec.ofChange s with cond := some uptoSmall }

/-- 'laws.FnExactValidStages', WHERE WHAT IT READS IS OF BULK AT MOST 1048576: true; the input reads as it did. -/
def fnExactValidStagesUptoRow : OpenClaim := { program := "ytnojlapjkdihmab", sum := "8902d0cbc7f96d73ca3cfed20a7b88df9bf74ebc82fc6997957a79e077329b1d", func := "loop.example/salesbybids/laws.FnExactValidStages", spec := "fnExactValidStages", unfollowed := true, recurses := true, apart := false, narrowed := true }
def FnExactValidStagesUptoSaid : Prop := fnExactValidStagesUptoRow.holds Try.pinned (OpenSpec.upto fnExactValidStagesSpec)

/-- 'laws.FnExactBestSeen', WHERE WHAT IT READS IS OF BULK AT MOST 1048576: true; the input reads as it did. -/
def fnExactBestSeenUptoRow : OpenClaim := { program := "ytnojlapjkdihmab", sum := "8902d0cbc7f96d73ca3cfed20a7b88df9bf74ebc82fc6997957a79e077329b1d", func := "loop.example/salesbybids/laws.FnExactBestSeen", spec := "fnExactBestSeen", unfollowed := true, recurses := true, apart := false, narrowed := true }
def FnExactBestSeenUptoSaid : Prop := fnExactBestSeenUptoRow.holds Try.pinned (OpenSpec.upto fnExactBestSeenSpec)

/-- 'laws.FnExactBestStop', WHERE WHAT IT READS IS OF BULK AT MOST 1048576: true; the input reads as it did. -/
def fnExactBestStopUptoRow : OpenClaim := { program := "ytnojlapjkdihmab", sum := "8902d0cbc7f96d73ca3cfed20a7b88df9bf74ebc82fc6997957a79e077329b1d", func := "loop.example/salesbybids/laws.FnExactBestStop", spec := "fnExactBestStop", unfollowed := true, recurses := true, apart := false, narrowed := true }
def FnExactBestStopUptoSaid : Prop := fnExactBestStopUptoRow.holds Try.pinned (OpenSpec.upto fnExactBestStopSpec)

/-- 'laws.FnExactStopAt', WHERE WHAT IT READS IS OF BULK AT MOST 1048576: true; the input reads as it did. -/
def fnExactStopAtUptoRow : OpenClaim := { program := "ytnojlapjkdihmab", sum := "8902d0cbc7f96d73ca3cfed20a7b88df9bf74ebc82fc6997957a79e077329b1d", func := "loop.example/salesbybids/laws.FnExactStopAt", spec := "fnExactStopAt", unfollowed := true, recurses := true, apart := false, narrowed := true }
def FnExactStopAtUptoSaid : Prop := fnExactStopAtUptoRow.holds Try.pinned (OpenSpec.upto fnExactStopAtSpec)

/-- 'laws.FnExactHalfStop', WHERE WHAT IT READS IS OF BULK AT MOST 1048576: true; the input reads as it did. -/
def fnExactHalfStopUptoRow : OpenClaim := { program := "ytnojlapjkdihmab", sum := "8902d0cbc7f96d73ca3cfed20a7b88df9bf74ebc82fc6997957a79e077329b1d", func := "loop.example/salesbybids/laws.FnExactHalfStop", spec := "fnExactHalfStop", unfollowed := true, recurses := true, apart := false, narrowed := true }
def FnExactHalfStopUptoSaid : Prop := fnExactHalfStopUptoRow.holds Try.pinned (OpenSpec.upto fnExactHalfStopSpec)

/-- 'laws.FnExactSkipWins', WHERE WHAT IT READS IS OF BULK AT MOST 1048576: true; the input reads as it did. -/
def fnExactSkipWinsUptoRow : OpenClaim := { program := "ytnojlapjkdihmab", sum := "8902d0cbc7f96d73ca3cfed20a7b88df9bf74ebc82fc6997957a79e077329b1d", func := "loop.example/salesbybids/laws.FnExactSkipWins", spec := "fnExactSkipWins", apart := false, narrowed := true }
def FnExactSkipWinsUptoSaid : Prop := fnExactSkipWinsUptoRow.holds Try.pinned (OpenSpec.upto fnExactSkipWinsSpec)

/-- 'laws.FnExactSkipTried', WHERE WHAT IT READS IS OF BULK AT MOST 1048576: true; the input reads as it did. -/
def fnExactSkipTriedUptoRow : OpenClaim := { program := "ytnojlapjkdihmab", sum := "8902d0cbc7f96d73ca3cfed20a7b88df9bf74ebc82fc6997957a79e077329b1d", func := "loop.example/salesbybids/laws.FnExactSkipTried", spec := "fnExactSkipTried", unfollowed := true, recurses := true, apart := false, narrowed := true }
def FnExactSkipTriedUptoSaid : Prop := fnExactSkipTriedUptoRow.holds Try.pinned (OpenSpec.upto fnExactSkipTriedSpec)

/-- 'laws.FnExactBestSkip', WHERE WHAT IT READS IS OF BULK AT MOST 1048576: true; the input reads as it did. -/
def fnExactBestSkipUptoRow : OpenClaim := { program := "ytnojlapjkdihmab", sum := "8902d0cbc7f96d73ca3cfed20a7b88df9bf74ebc82fc6997957a79e077329b1d", func := "loop.example/salesbybids/laws.FnExactBestSkip", spec := "fnExactBestSkip", apart := false, narrowed := true }
def FnExactBestSkipUptoSaid : Prop := fnExactBestSkipUptoRow.holds Try.pinned (OpenSpec.upto fnExactBestSkipSpec)

end Rows
end Go.Proofs.Ytnojlapjkdihmab
