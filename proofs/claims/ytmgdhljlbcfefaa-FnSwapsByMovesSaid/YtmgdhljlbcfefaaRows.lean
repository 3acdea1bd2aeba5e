/-
  No cell of these rows narrows 'for every input' (looked for: loops, veiled, ifaces, maps, wideKeys, modest, calm, conditions, laid).
  DERIVED. THE GIVEN ROWS OF THIS SEAT. 9 by the template 'for every input the law returns true; each argument reads behind the call as it read before'; 0 by the template 'total and deterministic' (their statements: YtmgdhljlbcfefaaTotals.lean).
  GIVEN WITH THE SEED: the statements are not yours to turn. If you find one false, say at which input.
  Laid BY PROGRAM, IN A SANDBOX (cutbox-rows.mjs): the forced cells as the released guide's own fill.sh prints them over the translation 0a7198749df9b111… (all of the seat's roots in one cut). By AI agents, Wed Nov 11 2026. No macro, syntax, notation, axiom, sorry.
-/
import Derived.Test.YtmgdhljlbcfefaaChecked
import GoSem.Claim
import GoSem.ClaimJoined
import GoSem.ClaimMapViews
import Derived.JoinedTies
import Derived.KernelRfl
namespace Go.Proofs.Ytmgdhljlbcfefaa
/- THE CELL 'sum', in the pinned program and in every row, IS THE sha256 OF THE DUMP (.gsa) THAT YtmgdhljlbcfefaaProg.lean LOADS. Nothing in Lean hashes anything: it is a label: what it is worth is what the hold of that sum in a sandbox is worth. -/
noncomputable def Try.pinned : Pinned := { name := "ytmgdhljlbcfefaa", sum := "0a7198749df9b1119fe735798b1cddadc841904ad7fee519abed52935cf4f12c", checked := Try.checked }
namespace Rows
def none {H : Type} : Left H := { results := [], args := [] }

/-- 'laws.FnIsSum': WHATEVER THE INPUT: true; the input reads as it did. -/
def fnIsSumSpec : ChangeSpec := { name := "fnIsSum", fn := fun _ => fun
  | [d] => { results := [.lit (.bool true)], args := [d] }
  | _ => none }
def fnIsSumRow : OpenClaim := { program := "ytmgdhljlbcfefaa", sum := "0a7198749df9b1119fe735798b1cddadc841904ad7fee519abed52935cf4f12c", func := "loop.example/salesbybids/laws.FnIsSum", spec := "fnIsSum", unfollowed := true, recurses := true, apart := false }
def FnIsSumSaid : Prop := fnIsSumRow.holds Try.pinned (OpenSpec.ofChange fnIsSumSpec)

/-- ITS FALSE NEIGHBOUR: 'it returns false'. Refute it at one input. -/
def fnIsSumWrong : ChangeSpec := { name := "fnIsSum", fn := fun _ => fun
  | [d] => { results := [.lit (.bool false)], args := [d] }
  | _ => none }
def FnIsSumWrongFalsely : Prop := fnIsSumRow.holds Try.pinned (OpenSpec.ofChange fnIsSumWrong)

/-- 'laws.FnIsOne': WHATEVER THE INPUT: true; the input reads as it did. -/
def fnIsOneSpec : ChangeSpec := { name := "fnIsOne", fn := fun _ => fun
  | [d] => { results := [.lit (.bool true)], args := [d] }
  | _ => none }
def fnIsOneRow : OpenClaim := { program := "ytmgdhljlbcfefaa", sum := "0a7198749df9b1119fe735798b1cddadc841904ad7fee519abed52935cf4f12c", func := "loop.example/salesbybids/laws.FnIsOne", spec := "fnIsOne", unfollowed := true, recurses := true, apart := false }
def FnIsOneSaid : Prop := fnIsOneRow.holds Try.pinned (OpenSpec.ofChange fnIsOneSpec)

/-- ITS FALSE NEIGHBOUR: 'it returns false'. Refute it at one input. -/
def fnIsOneWrong : ChangeSpec := { name := "fnIsOne", fn := fun _ => fun
  | [d] => { results := [.lit (.bool false)], args := [d] }
  | _ => none }
def FnIsOneWrongFalsely : Prop := fnIsOneRow.holds Try.pinned (OpenSpec.ofChange fnIsOneWrong)

/-- 'laws.FnGainAsTwo': WHATEVER THE INPUT: true; the input reads as it did. -/
def fnGainAsTwoSpec : ChangeSpec := { name := "fnGainAsTwo", fn := fun _ => fun
  | [d] => { results := [.lit (.bool true)], args := [d] }
  | _ => none }
def fnGainAsTwoRow : OpenClaim := { program := "ytmgdhljlbcfefaa", sum := "0a7198749df9b1119fe735798b1cddadc841904ad7fee519abed52935cf4f12c", func := "loop.example/salesbybids/laws.FnGainAsTwo", spec := "fnGainAsTwo", unfollowed := true, recurses := true, apart := false }
def FnGainAsTwoSaid : Prop := fnGainAsTwoRow.holds Try.pinned (OpenSpec.ofChange fnGainAsTwoSpec)

/-- ITS FALSE NEIGHBOUR: 'it returns false'. Refute it at one input. -/
def fnGainAsTwoWrong : ChangeSpec := { name := "fnGainAsTwo", fn := fun _ => fun
  | [d] => { results := [.lit (.bool false)], args := [d] }
  | _ => none }
def FnGainAsTwoWrongFalsely : Prop := fnGainAsTwoRow.holds Try.pinned (OpenSpec.ofChange fnGainAsTwoWrong)

/-- 'laws.FnSurplusAt': WHATEVER THE INPUT: true; the input reads as it did. -/
def fnSurplusAtSpec : ChangeSpec := { name := "fnSurplusAt", fn := fun _ => fun
  | [d] => { results := [.lit (.bool true)], args := [d] }
  | _ => none }
def fnSurplusAtRow : OpenClaim := { program := "ytmgdhljlbcfefaa", sum := "0a7198749df9b1119fe735798b1cddadc841904ad7fee519abed52935cf4f12c", func := "loop.example/salesbybids/laws.FnSurplusAt", spec := "fnSurplusAt", unfollowed := true, recurses := true, apart := false }
def FnSurplusAtSaid : Prop := fnSurplusAtRow.holds Try.pinned (OpenSpec.ofChange fnSurplusAtSpec)

/-- ITS FALSE NEIGHBOUR: 'it returns false'. Refute it at one input. -/
def fnSurplusAtWrong : ChangeSpec := { name := "fnSurplusAt", fn := fun _ => fun
  | [d] => { results := [.lit (.bool false)], args := [d] }
  | _ => none }
def FnSurplusAtWrongFalsely : Prop := fnSurplusAtRow.holds Try.pinned (OpenSpec.ofChange fnSurplusAtWrong)

/-- 'laws.FnDemandAt': WHATEVER THE INPUT: true; the input reads as it did. -/
def fnDemandAtSpec : ChangeSpec := { name := "fnDemandAt", fn := fun _ => fun
  | [d] => { results := [.lit (.bool true)], args := [d] }
  | _ => none }
def fnDemandAtRow : OpenClaim := { program := "ytmgdhljlbcfefaa", sum := "0a7198749df9b1119fe735798b1cddadc841904ad7fee519abed52935cf4f12c", func := "loop.example/salesbybids/laws.FnDemandAt", spec := "fnDemandAt", unfollowed := true, recurses := true, apart := false }
def FnDemandAtSaid : Prop := fnDemandAtRow.holds Try.pinned (OpenSpec.ofChange fnDemandAtSpec)

/-- ITS FALSE NEIGHBOUR: 'it returns false'. Refute it at one input. -/
def fnDemandAtWrong : ChangeSpec := { name := "fnDemandAt", fn := fun _ => fun
  | [d] => { results := [.lit (.bool false)], args := [d] }
  | _ => none }
def FnDemandAtWrongFalsely : Prop := fnDemandAtRow.holds Try.pinned (OpenSpec.ofChange fnDemandAtWrong)

/-- 'laws.FnSwapsByMoves': WHATEVER THE INPUT: true; the input reads as it did. -/
def fnSwapsByMovesSpec : ChangeSpec := { name := "fnSwapsByMoves", fn := fun _ => fun
  | [d] => { results := [.lit (.bool true)], args := [d] }
  | _ => none }
def fnSwapsByMovesRow : OpenClaim := { program := "ytmgdhljlbcfefaa", sum := "0a7198749df9b1119fe735798b1cddadc841904ad7fee519abed52935cf4f12c", func := "loop.example/salesbybids/laws.FnSwapsByMoves", spec := "fnSwapsByMoves", recurses := true, apart := false }
def FnSwapsByMovesSaid : Prop := fnSwapsByMovesRow.holds Try.pinned (OpenSpec.ofChange fnSwapsByMovesSpec)

/-- ITS FALSE NEIGHBOUR: 'it returns false'. Refute it at one input. -/
def fnSwapsByMovesWrong : ChangeSpec := { name := "fnSwapsByMoves", fn := fun _ => fun
  | [d] => { results := [.lit (.bool false)], args := [d] }
  | _ => none }
def FnSwapsByMovesWrongFalsely : Prop := fnSwapsByMovesRow.holds Try.pinned (OpenSpec.ofChange fnSwapsByMovesWrong)

/-- 'laws.FnSwapsByThrees': WHATEVER THE INPUT: true; the input reads as it did. -/
def fnSwapsByThreesSpec : ChangeSpec := { name := "fnSwapsByThrees", fn := fun _ => fun
  | [d] => { results := [.lit (.bool true)], args := [d] }
  | _ => none }
def fnSwapsByThreesRow : OpenClaim := { program := "ytmgdhljlbcfefaa", sum := "0a7198749df9b1119fe735798b1cddadc841904ad7fee519abed52935cf4f12c", func := "loop.example/salesbybids/laws.FnSwapsByThrees", spec := "fnSwapsByThrees", unfollowed := true, recurses := true, apart := false }
def FnSwapsByThreesSaid : Prop := fnSwapsByThreesRow.holds Try.pinned (OpenSpec.ofChange fnSwapsByThreesSpec)

/-- ITS FALSE NEIGHBOUR: 'it returns false'. Refute it at one input. -/
def fnSwapsByThreesWrong : ChangeSpec := { name := "fnSwapsByThrees", fn := fun _ => fun
  | [d] => { results := [.lit (.bool false)], args := [d] }
  | _ => none }
def FnSwapsByThreesWrongFalsely : Prop := fnSwapsByThreesRow.holds Try.pinned (OpenSpec.ofChange fnSwapsByThreesWrong)

/-- 'laws.FnKeepsDemand': WHATEVER THE INPUT: true; the input reads as it did. -/
def fnKeepsDemandSpec : ChangeSpec := { name := "fnKeepsDemand", fn := fun _ => fun
  | [d] => { results := [.lit (.bool true)], args := [d] }
  | _ => none }
def fnKeepsDemandRow : OpenClaim := { program := "ytmgdhljlbcfefaa", sum := "0a7198749df9b1119fe735798b1cddadc841904ad7fee519abed52935cf4f12c", func := "loop.example/salesbybids/laws.FnKeepsDemand", spec := "fnKeepsDemand", unfollowed := true, recurses := true, apart := false }
def FnKeepsDemandSaid : Prop := fnKeepsDemandRow.holds Try.pinned (OpenSpec.ofChange fnKeepsDemandSpec)

/-- ITS FALSE NEIGHBOUR: 'it returns false'. Refute it at one input. -/
def fnKeepsDemandWrong : ChangeSpec := { name := "fnKeepsDemand", fn := fun _ => fun
  | [d] => { results := [.lit (.bool false)], args := [d] }
  | _ => none }
def FnKeepsDemandWrongFalsely : Prop := fnKeepsDemandRow.holds Try.pinned (OpenSpec.ofChange fnKeepsDemandWrong)

/-- 'laws.FnJoinTables': WHATEVER THE INPUT: true; the input reads as it did. -/
def fnJoinTablesSpec : ChangeSpec := { name := "fnJoinTables", fn := fun _ => fun
  | [d] => { results := [.lit (.bool true)], args := [d] }
  | _ => none }
def fnJoinTablesRow : OpenClaim := { program := "ytmgdhljlbcfefaa", sum := "0a7198749df9b1119fe735798b1cddadc841904ad7fee519abed52935cf4f12c", func := "loop.example/salesbybids/laws.FnJoinTables", spec := "fnJoinTables", recurses := true, apart := false }
def FnJoinTablesSaid : Prop := fnJoinTablesRow.holds Try.pinned (OpenSpec.ofChange fnJoinTablesSpec)

/-- ITS FALSE NEIGHBOUR: 'it returns false'. Refute it at one input. -/
def fnJoinTablesWrong : ChangeSpec := { name := "fnJoinTables", fn := fun _ => fun
  | [d] => { results := [.lit (.bool false)], args := [d] }
  | _ => none }
def FnJoinTablesWrongFalsely : Prop := fnJoinTablesRow.holds Try.pinned (OpenSpec.ofChange fnJoinTablesWrong)

/- THE SECOND FORM. 'bulk': how many values and letters a reading holds, each counted each time it is reached (what is shared counts as often as it is met; a slice's spare places count too). A statement '..UptoSaid' is the law's where the arguments, and the package variables that the reading takes, are together of bulk at most 1048576: NARROWER than '..Said'. Prove '..Said' where nothing that the law and all that it calls make is longer than what came in: it says more and counts as full. Else prove '..UptoSaid'. A law counts once. -/
mutual
def uptoBulk {H : Type} : DataW H → Nat
  | .lit (.string bytes) => bytes.length + 1
  | .lit _ => 1
  | .nil => 1
  | .ptr d => uptoBulk d + 1
  | .slice elems spare => uptoBulkAll elems + uptoBulkAll spare + 1
  | .agg parts => uptoBulkAll parts + 1
  | .iface _ d => uptoBulk d + 1
  | .map entries => uptoBulkEntries entries + 1
  | .held _ => 1
def uptoBulkAll {H : Type} : List (DataW H) → Nat
  | [] => 0
  | d :: r => uptoBulk d + uptoBulkAll r
def uptoBulkEntries {H : Type} : List (Lit × DataW H) → Nat
  | [] => 0
  | x :: r => uptoBulkEntry x + uptoBulkEntries r
def uptoBulkEntry {H : Type} : Lit × DataW H → Nat
  | (.string bytes, d) => bytes.length + uptoBulk d + 1
  | (_, d) => uptoBulk d + 1
 end
def uptoSmall : (H : Type) → List (DataW H) → Bool := fun _ ds => decide (uptoBulkAll ds ≤ 1048576)
def OpenSpec.upto (s : _root_.Go.ChangeSpec) : _root_.Go.OpenSpec := { _root_.Go.OpenSpec.ofChange s with cond := some uptoSmall }

/-- 'laws.FnIsSum', WHERE WHAT IT READS IS OF BULK AT MOST 1048576: true; the input reads as it did. -/
def fnIsSumUptoRow : OpenClaim := { program := "ytmgdhljlbcfefaa", sum := "0a7198749df9b1119fe735798b1cddadc841904ad7fee519abed52935cf4f12c", func := "loop.example/salesbybids/laws.FnIsSum", spec := "fnIsSum", unfollowed := true, recurses := true, apart := false, narrowed := true }
def FnIsSumUptoSaid : Prop := fnIsSumUptoRow.holds Try.pinned (OpenSpec.upto fnIsSumSpec)

/-- 'laws.FnIsOne', WHERE WHAT IT READS IS OF BULK AT MOST 1048576: true; the input reads as it did. -/
def fnIsOneUptoRow : OpenClaim := { program := "ytmgdhljlbcfefaa", sum := "0a7198749df9b1119fe735798b1cddadc841904ad7fee519abed52935cf4f12c", func := "loop.example/salesbybids/laws.FnIsOne", spec := "fnIsOne", unfollowed := true, recurses := true, apart := false, narrowed := true }
def FnIsOneUptoSaid : Prop := fnIsOneUptoRow.holds Try.pinned (OpenSpec.upto fnIsOneSpec)

/-- 'laws.FnGainAsTwo', WHERE WHAT IT READS IS OF BULK AT MOST 1048576: true; the input reads as it did. -/
def fnGainAsTwoUptoRow : OpenClaim := { program := "ytmgdhljlbcfefaa", sum := "0a7198749df9b1119fe735798b1cddadc841904ad7fee519abed52935cf4f12c", func := "loop.example/salesbybids/laws.FnGainAsTwo", spec := "fnGainAsTwo", unfollowed := true, recurses := true, apart := false, narrowed := true }
def FnGainAsTwoUptoSaid : Prop := fnGainAsTwoUptoRow.holds Try.pinned (OpenSpec.upto fnGainAsTwoSpec)

/-- 'laws.FnSurplusAt', WHERE WHAT IT READS IS OF BULK AT MOST 1048576: true; the input reads as it did. -/
def fnSurplusAtUptoRow : OpenClaim := { program := "ytmgdhljlbcfefaa", sum := "0a7198749df9b1119fe735798b1cddadc841904ad7fee519abed52935cf4f12c", func := "loop.example/salesbybids/laws.FnSurplusAt", spec := "fnSurplusAt", unfollowed := true, recurses := true, apart := false, narrowed := true }
def FnSurplusAtUptoSaid : Prop := fnSurplusAtUptoRow.holds Try.pinned (OpenSpec.upto fnSurplusAtSpec)

/-- 'laws.FnDemandAt', WHERE WHAT IT READS IS OF BULK AT MOST 1048576: true; the input reads as it did. -/
def fnDemandAtUptoRow : OpenClaim := { program := "ytmgdhljlbcfefaa", sum := "0a7198749df9b1119fe735798b1cddadc841904ad7fee519abed52935cf4f12c", func := "loop.example/salesbybids/laws.FnDemandAt", spec := "fnDemandAt", unfollowed := true, recurses := true, apart := false, narrowed := true }
def FnDemandAtUptoSaid : Prop := fnDemandAtUptoRow.holds Try.pinned (OpenSpec.upto fnDemandAtSpec)

/-- 'laws.FnSwapsByMoves', WHERE WHAT IT READS IS OF BULK AT MOST 1048576: true; the input reads as it did. -/
def fnSwapsByMovesUptoRow : OpenClaim := { program := "ytmgdhljlbcfefaa", sum := "0a7198749df9b1119fe735798b1cddadc841904ad7fee519abed52935cf4f12c", func := "loop.example/salesbybids/laws.FnSwapsByMoves", spec := "fnSwapsByMoves", recurses := true, apart := false, narrowed := true }
def FnSwapsByMovesUptoSaid : Prop := fnSwapsByMovesUptoRow.holds Try.pinned (OpenSpec.upto fnSwapsByMovesSpec)

/-- 'laws.FnSwapsByThrees', WHERE WHAT IT READS IS OF BULK AT MOST 1048576: true; the input reads as it did. -/
def fnSwapsByThreesUptoRow : OpenClaim := { program := "ytmgdhljlbcfefaa", sum := "0a7198749df9b1119fe735798b1cddadc841904ad7fee519abed52935cf4f12c", func := "loop.example/salesbybids/laws.FnSwapsByThrees", spec := "fnSwapsByThrees", unfollowed := true, recurses := true, apart := false, narrowed := true }
def FnSwapsByThreesUptoSaid : Prop := fnSwapsByThreesUptoRow.holds Try.pinned (OpenSpec.upto fnSwapsByThreesSpec)

/-- 'laws.FnKeepsDemand', WHERE WHAT IT READS IS OF BULK AT MOST 1048576: true; the input reads as it did. -/
def fnKeepsDemandUptoRow : OpenClaim := { program := "ytmgdhljlbcfefaa", sum := "0a7198749df9b1119fe735798b1cddadc841904ad7fee519abed52935cf4f12c", func := "loop.example/salesbybids/laws.FnKeepsDemand", spec := "fnKeepsDemand", unfollowed := true, recurses := true, apart := false, narrowed := true }
def FnKeepsDemandUptoSaid : Prop := fnKeepsDemandUptoRow.holds Try.pinned (OpenSpec.upto fnKeepsDemandSpec)

/-- 'laws.FnJoinTables', WHERE WHAT IT READS IS OF BULK AT MOST 1048576: true; the input reads as it did. -/
def fnJoinTablesUptoRow : OpenClaim := { program := "ytmgdhljlbcfefaa", sum := "0a7198749df9b1119fe735798b1cddadc841904ad7fee519abed52935cf4f12c", func := "loop.example/salesbybids/laws.FnJoinTables", spec := "fnJoinTables", recurses := true, apart := false, narrowed := true }
def FnJoinTablesUptoSaid : Prop := fnJoinTablesUptoRow.holds Try.pinned (OpenSpec.upto fnJoinTablesSpec)

end Rows
end Go.Proofs.Ytmgdhljlbcfefaa
