/-
  No cell of these rows narrows 'for every input' (looked for: loops, veiled, ifaces, maps, wideKeys, modest, calm, conditions, laid).
  DERIVED. THE GIVEN ROWS OF THIS SEAT. 8 by the template 'for every input the law returns true; each argument reads behind the call as it read before'; 0 by the template 'total and deterministic' (their statements: YtmgdhljlbcfefabTotals.lean).
  GIVEN WITH THE SEED: the statements are not yours to turn. If you find one false, say at which input.
  Laid BY PROGRAM, IN A SANDBOX (cutbox-rows.mjs): the forced cells as the released guide's own fill.sh prints them over the translation 25ce21e00475ad24… (all of the seat's roots in one cut). By AI agents, Wed Nov 11 2026. No macro, syntax, notation, axiom, sorry.
-/
import Derived.Test.YtmgdhljlbcfefabChecked
import GoSem.Claim
import GoSem.ClaimJoined
import GoSem.ClaimMapViews
import Derived.JoinedTies
import Derived.KernelRfl
namespace Go.Proofs.Ytmgdhljlbcfefab
/- THE CELL 'sum', in the pinned program and in every row, IS THE sha256 OF THE DUMP (.gsa) THAT YtmgdhljlbcfefabProg.lean LOADS. Nothing in Lean hashes anything: it is a label: what it is worth is what the hold of that sum in a sandbox is worth. -/
noncomputable def Try.pinned : Pinned := { name := "ytmgdhljlbcfefab", sum := "25ce21e00475ad24e582900b3bd778654c52b75fa164a6254fa53b2ba0368b4b", checked := Try.checked }
namespace Rows
def none {H : Type} : Left H := { results := [], args := [] }

/-- 'laws.FnUnitsAreBundles': WHATEVER THE INPUT: true; the input reads as it did. -/
def fnUnitsAreBundlesSpec : ChangeSpec := { name := "fnUnitsAreBundles", fn := fun _ => fun
  | [d] => { results := [.lit (.bool true)], args := [d] }
  | _ => none }
def fnUnitsAreBundlesRow : OpenClaim := { program := "ytmgdhljlbcfefab", sum := "25ce21e00475ad24e582900b3bd778654c52b75fa164a6254fa53b2ba0368b4b", func := "loop.example/salesbybids/laws.FnUnitsAreBundles", spec := "fnUnitsAreBundles", unfollowed := true, recurses := true, apart := false }
def FnUnitsAreBundlesSaid : Prop := fnUnitsAreBundlesRow.holds Try.pinned (OpenSpec.ofChange fnUnitsAreBundlesSpec)

/-- ITS FALSE NEIGHBOUR: 'it returns false'. Refute it at one input. -/
def fnUnitsAreBundlesWrong : ChangeSpec := { name := "fnUnitsAreBundles", fn := fun _ => fun
  | [d] => { results := [.lit (.bool false)], args := [d] }
  | _ => none }
def FnUnitsAreBundlesWrongFalsely : Prop := fnUnitsAreBundlesRow.holds Try.pinned (OpenSpec.ofChange fnUnitsAreBundlesWrong)

/-- 'laws.FnMoreBidsPayMore': WHATEVER THE INPUT: true; the input reads as it did. -/
def fnMoreBidsPayMoreSpec : ChangeSpec := { name := "fnMoreBidsPayMore", fn := fun _ => fun
  | [d] => { results := [.lit (.bool true)], args := [d] }
  | _ => none }
def fnMoreBidsPayMoreRow : OpenClaim := { program := "ytmgdhljlbcfefab", sum := "25ce21e00475ad24e582900b3bd778654c52b75fa164a6254fa53b2ba0368b4b", func := "loop.example/salesbybids/laws.FnMoreBidsPayMore", spec := "fnMoreBidsPayMore", unfollowed := true, recurses := true, apart := false }
def FnMoreBidsPayMoreSaid : Prop := fnMoreBidsPayMoreRow.holds Try.pinned (OpenSpec.ofChange fnMoreBidsPayMoreSpec)

/-- ITS FALSE NEIGHBOUR: 'it returns false'. Refute it at one input. -/
def fnMoreBidsPayMoreWrong : ChangeSpec := { name := "fnMoreBidsPayMore", fn := fun _ => fun
  | [d] => { results := [.lit (.bool false)], args := [d] }
  | _ => none }
def FnMoreBidsPayMoreWrongFalsely : Prop := fnMoreBidsPayMoreRow.holds Try.pinned (OpenSpec.ofChange fnMoreBidsPayMoreWrong)

/-- 'laws.FnExactSurplusAt': WHATEVER THE INPUT: true; the input reads as it did. -/
def fnExactSurplusAtSpec : ChangeSpec := { name := "fnExactSurplusAt", fn := fun _ => fun
  | [d1, d2] => { results := [.lit (.bool true)], args := [d1, d2] }
  | _ => none }
def fnExactSurplusAtRow : OpenClaim := { program := "ytmgdhljlbcfefab", sum := "25ce21e00475ad24e582900b3bd778654c52b75fa164a6254fa53b2ba0368b4b", func := "loop.example/salesbybids/laws.FnExactSurplusAt", spec := "fnExactSurplusAt", unfollowed := true, recurses := true, apart := false }
def FnExactSurplusAtSaid : Prop := fnExactSurplusAtRow.holds Try.pinned (OpenSpec.ofChange fnExactSurplusAtSpec)

/-- ITS FALSE NEIGHBOUR: 'it returns false'. Refute it at one input. -/
def fnExactSurplusAtWrong : ChangeSpec := { name := "fnExactSurplusAt", fn := fun _ => fun
  | [d1, d2] => { results := [.lit (.bool false)], args := [d1, d2] }
  | _ => none }
def FnExactSurplusAtWrongFalsely : Prop := fnExactSurplusAtRow.holds Try.pinned (OpenSpec.ofChange fnExactSurplusAtWrong)

/-- 'laws.FnExactDemandAt': WHATEVER THE INPUT: true; the input reads as it did. -/
def fnExactDemandAtSpec : ChangeSpec := { name := "fnExactDemandAt", fn := fun _ => fun
  | [d1, d2] => { results := [.lit (.bool true)], args := [d1, d2] }
  | _ => none }
def fnExactDemandAtRow : OpenClaim := { program := "ytmgdhljlbcfefab", sum := "25ce21e00475ad24e582900b3bd778654c52b75fa164a6254fa53b2ba0368b4b", func := "loop.example/salesbybids/laws.FnExactDemandAt", spec := "fnExactDemandAt", unfollowed := true, recurses := true, apart := false }
def FnExactDemandAtSaid : Prop := fnExactDemandAtRow.holds Try.pinned (OpenSpec.ofChange fnExactDemandAtSpec)

/-- ITS FALSE NEIGHBOUR: 'it returns false'. Refute it at one input. -/
def fnExactDemandAtWrong : ChangeSpec := { name := "fnExactDemandAt", fn := fun _ => fun
  | [d1, d2] => { results := [.lit (.bool false)], args := [d1, d2] }
  | _ => none }
def FnExactDemandAtWrongFalsely : Prop := fnExactDemandAtRow.holds Try.pinned (OpenSpec.ofChange fnExactDemandAtWrong)

/-- 'laws.FnExactSwapsByMoves': WHATEVER THE INPUT: true; the input reads as it did. -/
def fnExactSwapsByMovesSpec : ChangeSpec := { name := "fnExactSwapsByMoves", fn := fun _ => fun
  | [d] => { results := [.lit (.bool true)], args := [d] }
  | _ => none }
def fnExactSwapsByMovesRow : OpenClaim := { program := "ytmgdhljlbcfefab", sum := "25ce21e00475ad24e582900b3bd778654c52b75fa164a6254fa53b2ba0368b4b", func := "loop.example/salesbybids/laws.FnExactSwapsByMoves", spec := "fnExactSwapsByMoves", apart := false }
def FnExactSwapsByMovesSaid : Prop := fnExactSwapsByMovesRow.holds Try.pinned (OpenSpec.ofChange fnExactSwapsByMovesSpec)

/-- ITS FALSE NEIGHBOUR: 'it returns false'. Refute it at one input. -/
def fnExactSwapsByMovesWrong : ChangeSpec := { name := "fnExactSwapsByMoves", fn := fun _ => fun
  | [d] => { results := [.lit (.bool false)], args := [d] }
  | _ => none }
def FnExactSwapsByMovesWrongFalsely : Prop := fnExactSwapsByMovesRow.holds Try.pinned (OpenSpec.ofChange fnExactSwapsByMovesWrong)

/-- 'laws.FnExactSwapsByThrees': WHATEVER THE INPUT: true; the input reads as it did. -/
def fnExactSwapsByThreesSpec : ChangeSpec := { name := "fnExactSwapsByThrees", fn := fun _ => fun
  | [d] => { results := [.lit (.bool true)], args := [d] }
  | _ => none }
def fnExactSwapsByThreesRow : OpenClaim := { program := "ytmgdhljlbcfefab", sum := "25ce21e00475ad24e582900b3bd778654c52b75fa164a6254fa53b2ba0368b4b", func := "loop.example/salesbybids/laws.FnExactSwapsByThrees", spec := "fnExactSwapsByThrees", apart := false }
def FnExactSwapsByThreesSaid : Prop := fnExactSwapsByThreesRow.holds Try.pinned (OpenSpec.ofChange fnExactSwapsByThreesSpec)

/-- ITS FALSE NEIGHBOUR: 'it returns false'. Refute it at one input. -/
def fnExactSwapsByThreesWrong : ChangeSpec := { name := "fnExactSwapsByThrees", fn := fun _ => fun
  | [d] => { results := [.lit (.bool false)], args := [d] }
  | _ => none }
def FnExactSwapsByThreesWrongFalsely : Prop := fnExactSwapsByThreesRow.holds Try.pinned (OpenSpec.ofChange fnExactSwapsByThreesWrong)

/-- 'laws.FnExactKeepsDemand': WHATEVER THE INPUT: true; the input reads as it did. -/
def fnExactKeepsDemandSpec : ChangeSpec := { name := "fnExactKeepsDemand", fn := fun _ => fun
  | [d1, d2, d3] => { results := [.lit (.bool true)], args := [d1, d2, d3] }
  | _ => none }
def fnExactKeepsDemandRow : OpenClaim := { program := "ytmgdhljlbcfefab", sum := "25ce21e00475ad24e582900b3bd778654c52b75fa164a6254fa53b2ba0368b4b", func := "loop.example/salesbybids/laws.FnExactKeepsDemand", spec := "fnExactKeepsDemand", unfollowed := true, recurses := true, apart := false }
def FnExactKeepsDemandSaid : Prop := fnExactKeepsDemandRow.holds Try.pinned (OpenSpec.ofChange fnExactKeepsDemandSpec)

/-- ITS FALSE NEIGHBOUR: 'it returns false'. Refute it at one input. -/
def fnExactKeepsDemandWrong : ChangeSpec := { name := "fnExactKeepsDemand", fn := fun _ => fun
  | [d1, d2, d3] => { results := [.lit (.bool false)], args := [d1, d2, d3] }
  | _ => none }
def FnExactKeepsDemandWrongFalsely : Prop := fnExactKeepsDemandRow.holds Try.pinned (OpenSpec.ofChange fnExactKeepsDemandWrong)

/-- 'laws.FnExactJoinTables': WHATEVER THE INPUT: true; the input reads as it did. -/
def fnExactJoinTablesSpec : ChangeSpec := { name := "fnExactJoinTables", fn := fun _ => fun
  | [d1, d2] => { results := [.lit (.bool true)], args := [d1, d2] }
  | _ => none }
def fnExactJoinTablesRow : OpenClaim := { program := "ytmgdhljlbcfefab", sum := "25ce21e00475ad24e582900b3bd778654c52b75fa164a6254fa53b2ba0368b4b", func := "loop.example/salesbybids/laws.FnExactJoinTables", spec := "fnExactJoinTables", recurses := true, apart := false }
def FnExactJoinTablesSaid : Prop := fnExactJoinTablesRow.holds Try.pinned (OpenSpec.ofChange fnExactJoinTablesSpec)

/-- ITS FALSE NEIGHBOUR: 'it returns false'. Refute it at one input. -/
def fnExactJoinTablesWrong : ChangeSpec := { name := "fnExactJoinTables", fn := fun _ => fun
  | [d1, d2] => { results := [.lit (.bool false)], args := [d1, d2] }
  | _ => none }
def FnExactJoinTablesWrongFalsely : Prop := fnExactJoinTablesRow.holds Try.pinned (OpenSpec.ofChange fnExactJoinTablesWrong)

/- THE SECOND FORM. 'bulk': how many values and letters a reading holds, each counted each time it is reached (what is shared counts as often as it is met; a slice's spare places count too). A statement '..UptoSaid' is the law's where the arguments, and the package variables that the reading takes, are together of bulk at most 1048576: NARROWER than '..Said'. Prove '..Said' where nothing that the law and all that it calls make is longer than what came in: it says more and counts as full. Else prove '..UptoSaid'. A law counts once. -/
mutual
def uptoBulk {H : Type} : DataW H → Nat
  | .lit (.string bytes) => bytes.length + 1
  | .lit _ => 1
  | .nil => 1
  | .ptr d => uptoBulk d + 1
  | .slice elems spare => uptoBulkAll elems + uptoBulkAll spare + 1
  | .agg parts => uptoBulkAll parts + 1
  | .iface _ d => uptoBulk d + 1
  | .map entries => uptoBulkEntries entries + 1
  | .held _ => 1
def uptoBulkAll {H : Type} : List (DataW H) → Nat
  | [] => 0
  | d :: r => uptoBulk d + uptoBulkAll r
def uptoBulkEntries {H : Type} : List (Lit × DataW H) → Nat
  | [] => 0
  | x :: r => uptoBulkEntry x + uptoBulkEntries r
def uptoBulkEntry {H : Type} : Lit × DataW H → Nat
  | (.string bytes, d) => bytes.length + uptoBulk d + 1
  | (_, d) => uptoBulk d + 1
 end
def uptoSmall : (H : Type) → List (DataW H) → Bool := fun _ ds => decide (uptoBulkAll ds ≤ 1048576)
def OpenSpec.upto (s : _root_.Go.ChangeSpec) : _root_.Go.OpenSpec := { _root_.Go.OpenSpec.ofChange s with cond := some uptoSmall }

/-- 'laws.FnUnitsAreBundles', WHERE WHAT IT READS IS OF BULK AT MOST 1048576: true; the input reads as it did. -/
def fnUnitsAreBundlesUptoRow : OpenClaim := { program := "ytmgdhljlbcfefab", sum := "25ce21e00475ad24e582900b3bd778654c52b75fa164a6254fa53b2ba0368b4b", func := "loop.example/salesbybids/laws.FnUnitsAreBundles", spec := "fnUnitsAreBundles", unfollowed := true, recurses := true, apart := false, narrowed := true }
def FnUnitsAreBundlesUptoSaid : Prop := fnUnitsAreBundlesUptoRow.holds Try.pinned (OpenSpec.upto fnUnitsAreBundlesSpec)

/-- 'laws.FnMoreBidsPayMore', WHERE WHAT IT READS IS OF BULK AT MOST 1048576: true; the input reads as it did. -/
def fnMoreBidsPayMoreUptoRow : OpenClaim := { program := "ytmgdhljlbcfefab", sum := "25ce21e00475ad24e582900b3bd778654c52b75fa164a6254fa53b2ba0368b4b", func := "loop.example/salesbybids/laws.FnMoreBidsPayMore", spec := "fnMoreBidsPayMore", unfollowed := true, recurses := true, apart := false, narrowed := true }
def FnMoreBidsPayMoreUptoSaid : Prop := fnMoreBidsPayMoreUptoRow.holds Try.pinned (OpenSpec.upto fnMoreBidsPayMoreSpec)

/-- 'laws.FnExactSurplusAt', WHERE WHAT IT READS IS OF BULK AT MOST 1048576: true; the input reads as it did. -/
def fnExactSurplusAtUptoRow : OpenClaim := { program := "ytmgdhljlbcfefab", sum := "25ce21e00475ad24e582900b3bd778654c52b75fa164a6254fa53b2ba0368b4b", func := "loop.example/salesbybids/laws.FnExactSurplusAt", spec := "fnExactSurplusAt", unfollowed := true, recurses := true, apart := false, narrowed := true }
def FnExactSurplusAtUptoSaid : Prop := fnExactSurplusAtUptoRow.holds Try.pinned (OpenSpec.upto fnExactSurplusAtSpec)

/-- 'laws.FnExactDemandAt', WHERE WHAT IT READS IS OF BULK AT MOST 1048576: true; the input reads as it did. -/
def fnExactDemandAtUptoRow : OpenClaim := { program := "ytmgdhljlbcfefab", sum := "25ce21e00475ad24e582900b3bd778654c52b75fa164a6254fa53b2ba0368b4b", func := "loop.example/salesbybids/laws.FnExactDemandAt", spec := "fnExactDemandAt", unfollowed := true, recurses := true, apart := false, narrowed := true }
def FnExactDemandAtUptoSaid : Prop := fnExactDemandAtUptoRow.holds Try.pinned (OpenSpec.upto fnExactDemandAtSpec)

/-- 'laws.FnExactSwapsByMoves', WHERE WHAT IT READS IS OF BULK AT MOST 1048576: true; the input reads as it did. -/
def fnExactSwapsByMovesUptoRow : OpenClaim := { program := "ytmgdhljlbcfefab", sum := "25ce21e00475ad24e582900b3bd778654c52b75fa164a6254fa53b2ba0368b4b", func := "loop.example/salesbybids/laws.FnExactSwapsByMoves", spec := "fnExactSwapsByMoves", apart := false, narrowed := true }
def FnExactSwapsByMovesUptoSaid : Prop := fnExactSwapsByMovesUptoRow.holds Try.pinned (OpenSpec.upto fnExactSwapsByMovesSpec)

/-- 'laws.FnExactSwapsByThrees', WHERE WHAT IT READS IS OF BULK AT MOST 1048576: true; the input reads as it did. -/
def fnExactSwapsByThreesUptoRow : OpenClaim := { program := "ytmgdhljlbcfefab", sum := "25ce21e00475ad24e582900b3bd778654c52b75fa164a6254fa53b2ba0368b4b", func := "loop.example/salesbybids/laws.FnExactSwapsByThrees", spec := "fnExactSwapsByThrees", apart := false, narrowed := true }
def FnExactSwapsByThreesUptoSaid : Prop := fnExactSwapsByThreesUptoRow.holds Try.pinned (OpenSpec.upto fnExactSwapsByThreesSpec)

/-- 'laws.FnExactKeepsDemand', WHERE WHAT IT READS IS OF BULK AT MOST 1048576: true; the input reads as it did. -/
def fnExactKeepsDemandUptoRow : OpenClaim := { program := "ytmgdhljlbcfefab", sum := "25ce21e00475ad24e582900b3bd778654c52b75fa164a6254fa53b2ba0368b4b", func := "loop.example/salesbybids/laws.FnExactKeepsDemand", spec := "fnExactKeepsDemand", unfollowed := true, recurses := true, apart := false, narrowed := true }
def FnExactKeepsDemandUptoSaid : Prop := fnExactKeepsDemandUptoRow.holds Try.pinned (OpenSpec.upto fnExactKeepsDemandSpec)

/-- 'laws.FnExactJoinTables', WHERE WHAT IT READS IS OF BULK AT MOST 1048576: true; the input reads as it did. -/
def fnExactJoinTablesUptoRow : OpenClaim := { program := "ytmgdhljlbcfefab", sum := "25ce21e00475ad24e582900b3bd778654c52b75fa164a6254fa53b2ba0368b4b", func := "loop.example/salesbybids/laws.FnExactJoinTables", spec := "fnExactJoinTables", recurses := true, apart := false, narrowed := true }
def FnExactJoinTablesUptoSaid : Prop := fnExactJoinTablesUptoRow.holds Try.pinned (OpenSpec.upto fnExactJoinTablesSpec)

end Rows
end Go.Proofs.Ytmgdhljlbcfefab
