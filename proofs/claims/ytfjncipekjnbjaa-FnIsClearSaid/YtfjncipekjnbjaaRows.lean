/-
  No cell of these rows narrows 'for every input' (looked for: loops, veiled, ifaces, maps, wideKeys, modest, calm, conditions, laid).
  DERIVED. THE GIVEN ROWS OF THIS SEAT. 11 by the template 'for every input the law returns true; each argument reads behind the call as it read before'; 0 by the template 'total and deterministic' (their statements: YtfjncipekjnbjaaTotals.lean).
  GIVEN WITH THE SEED: the statements are not yours to turn. If you find one false, say at which input.
  Laid BY PROGRAM, IN A SANDBOX (cutbox-rows.mjs): the forced cells as the released guide's own fill.sh prints them over the translation b8becdfe5dd366f3… (all of the seat's roots in one cut). By AI agents, Wed Nov 11 2026. No macro, syntax, notation, axiom, sorry.
-/
import Derived.Test.YtfjncipekjnbjaaChecked
import GoSem.Claim
import GoSem.ClaimJoined
import GoSem.ClaimMapViews
import Derived.JoinedTies
import Derived.KernelRfl
namespace Go.Proofs.Ytfjncipekjnbjaa
/- THE CELL 'sum', in the pinned program and in every row, IS THE sha256 OF THE DUMP (.gsa) THAT YtfjncipekjnbjaaProg.lean LOADS. Nothing in Lean hashes anything: it is a label: what it is worth is what the hold of that sum in a sandbox is worth. -/
noncomputable def Try.pinned : Pinned := { name := "ytfjncipekjnbjaa", sum := "b8becdfe5dd366f3516288caadf1d984dd804f75f20bbd6b131c216b92234875", checked := Try.checked }
namespace Rows
def none {H : Type} : Left H := { results := [], args := [] }

/-- 'laws.FnGainAsTwo': WHATEVER THE INPUT: true; the input reads as it did. -/
def fnGainAsTwoSpec : ChangeSpec := { name := "fnGainAsTwo", fn := fun _ => fun
  | [d] => { results := [.lit (.bool true)], args := [d] }
  | _ => none }
def fnGainAsTwoRow : OpenClaim := { program := "ytfjncipekjnbjaa", sum := "b8becdfe5dd366f3516288caadf1d984dd804f75f20bbd6b131c216b92234875", func := "loop.example/salesbybids/laws.FnGainAsTwo", spec := "fnGainAsTwo", unfollowed := true, recurses := true, apart := false }
def FnGainAsTwoSaid : Prop := fnGainAsTwoRow.holds Try.pinned (OpenSpec.ofChange fnGainAsTwoSpec)

/-- ITS FALSE NEIGHBOUR: 'it returns false'. Refute it at one input. -/
def fnGainAsTwoWrong : ChangeSpec := { name := "fnGainAsTwo", fn := fun _ => fun
  | [d] => { results := [.lit (.bool false)], args := [d] }
  | _ => none }
def FnGainAsTwoWrongFalsely : Prop := fnGainAsTwoRow.holds Try.pinned (OpenSpec.ofChange fnGainAsTwoWrong)

/-- 'laws.FnSurplusAt': WHATEVER THE INPUT: true; the input reads as it did. -/
def fnSurplusAtSpec : ChangeSpec := { name := "fnSurplusAt", fn := fun _ => fun
  | [d] => { results := [.lit (.bool true)], args := [d] }
  | _ => none }
def fnSurplusAtRow : OpenClaim := { program := "ytfjncipekjnbjaa", sum := "b8becdfe5dd366f3516288caadf1d984dd804f75f20bbd6b131c216b92234875", func := "loop.example/salesbybids/laws.FnSurplusAt", spec := "fnSurplusAt", unfollowed := true, recurses := true, apart := false }
def FnSurplusAtSaid : Prop := fnSurplusAtRow.holds Try.pinned (OpenSpec.ofChange fnSurplusAtSpec)

/-- ITS FALSE NEIGHBOUR: 'it returns false'. Refute it at one input. -/
def fnSurplusAtWrong : ChangeSpec := { name := "fnSurplusAt", fn := fun _ => fun
  | [d] => { results := [.lit (.bool false)], args := [d] }
  | _ => none }
def FnSurplusAtWrongFalsely : Prop := fnSurplusAtRow.holds Try.pinned (OpenSpec.ofChange fnSurplusAtWrong)

/-- 'laws.FnDemandAt': WHATEVER THE INPUT: true; the input reads as it did. -/
def fnDemandAtSpec : ChangeSpec := { name := "fnDemandAt", fn := fun _ => fun
  | [d] => { results := [.lit (.bool true)], args := [d] }
  | _ => none }
def fnDemandAtRow : OpenClaim := { program := "ytfjncipekjnbjaa", sum := "b8becdfe5dd366f3516288caadf1d984dd804f75f20bbd6b131c216b92234875", func := "loop.example/salesbybids/laws.FnDemandAt", spec := "fnDemandAt", unfollowed := true, recurses := true, apart := false }
def FnDemandAtSaid : Prop := fnDemandAtRow.holds Try.pinned (OpenSpec.ofChange fnDemandAtSpec)

/-- ITS FALSE NEIGHBOUR: 'it returns false'. Refute it at one input. -/
def fnDemandAtWrong : ChangeSpec := { name := "fnDemandAt", fn := fun _ => fun
  | [d] => { results := [.lit (.bool false)], args := [d] }
  | _ => none }
def FnDemandAtWrongFalsely : Prop := fnDemandAtRow.holds Try.pinned (OpenSpec.ofChange fnDemandAtWrong)

/-- 'laws.FnSwapsByThrees': WHATEVER THE INPUT: true; the input reads as it did. -/
def fnSwapsByThreesSpec : ChangeSpec := { name := "fnSwapsByThrees", fn := fun _ => fun
  | [d] => { results := [.lit (.bool true)], args := [d] }
  | _ => none }
def fnSwapsByThreesRow : OpenClaim := { program := "ytfjncipekjnbjaa", sum := "b8becdfe5dd366f3516288caadf1d984dd804f75f20bbd6b131c216b92234875", func := "loop.example/salesbybids/laws.FnSwapsByThrees", spec := "fnSwapsByThrees", unfollowed := true, recurses := true, apart := false }
def FnSwapsByThreesSaid : Prop := fnSwapsByThreesRow.holds Try.pinned (OpenSpec.ofChange fnSwapsByThreesSpec)

/-- ITS FALSE NEIGHBOUR: 'it returns false'. Refute it at one input. -/
def fnSwapsByThreesWrong : ChangeSpec := { name := "fnSwapsByThrees", fn := fun _ => fun
  | [d] => { results := [.lit (.bool false)], args := [d] }
  | _ => none }
def FnSwapsByThreesWrongFalsely : Prop := fnSwapsByThreesRow.holds Try.pinned (OpenSpec.ofChange fnSwapsByThreesWrong)

/-- 'laws.FnKeepsDemand': WHATEVER THE INPUT: true; the input reads as it did. -/
def fnKeepsDemandSpec : ChangeSpec := { name := "fnKeepsDemand", fn := fun _ => fun
  | [d] => { results := [.lit (.bool true)], args := [d] }
  | _ => none }
def fnKeepsDemandRow : OpenClaim := { program := "ytfjncipekjnbjaa", sum := "b8becdfe5dd366f3516288caadf1d984dd804f75f20bbd6b131c216b92234875", func := "loop.example/salesbybids/laws.FnKeepsDemand", spec := "fnKeepsDemand", unfollowed := true, recurses := true, apart := false }
def FnKeepsDemandSaid : Prop := fnKeepsDemandRow.holds Try.pinned (OpenSpec.ofChange fnKeepsDemandSpec)

/-- ITS FALSE NEIGHBOUR: 'it returns false'. Refute it at one input. -/
def fnKeepsDemandWrong : ChangeSpec := { name := "fnKeepsDemand", fn := fun _ => fun
  | [d] => { results := [.lit (.bool false)], args := [d] }
  | _ => none }
def FnKeepsDemandWrongFalsely : Prop := fnKeepsDemandRow.holds Try.pinned (OpenSpec.ofChange fnKeepsDemandWrong)

/-- 'laws.FnJoinTables': WHATEVER THE INPUT: true; the input reads as it did. -/
def fnJoinTablesSpec : ChangeSpec := { name := "fnJoinTables", fn := fun _ => fun
  | [d] => { results := [.lit (.bool true)], args := [d] }
  | _ => none }
def fnJoinTablesRow : OpenClaim := { program := "ytfjncipekjnbjaa", sum := "b8becdfe5dd366f3516288caadf1d984dd804f75f20bbd6b131c216b92234875", func := "loop.example/salesbybids/laws.FnJoinTables", spec := "fnJoinTables", recurses := true, apart := false }
def FnJoinTablesSaid : Prop := fnJoinTablesRow.holds Try.pinned (OpenSpec.ofChange fnJoinTablesSpec)

/-- ITS FALSE NEIGHBOUR: 'it returns false'. Refute it at one input. -/
def fnJoinTablesWrong : ChangeSpec := { name := "fnJoinTables", fn := fun _ => fun
  | [d] => { results := [.lit (.bool false)], args := [d] }
  | _ => none }
def FnJoinTablesWrongFalsely : Prop := fnJoinTablesRow.holds Try.pinned (OpenSpec.ofChange fnJoinTablesWrong)

/-- 'laws.FnIsClear': WHATEVER THE INPUT: true; the input reads as it did. -/
def fnIsClearSpec : ChangeSpec := { name := "fnIsClear", fn := fun _ => fun
  | [d] => { results := [.lit (.bool true)], args := [d] }
  | _ => none }
def fnIsClearRow : OpenClaim := { program := "ytfjncipekjnbjaa", sum := "b8becdfe5dd366f3516288caadf1d984dd804f75f20bbd6b131c216b92234875", func := "loop.example/salesbybids/laws.FnIsClear", spec := "fnIsClear", unfollowed := true, recurses := true, apart := false }
def FnIsClearSaid : Prop := fnIsClearRow.holds Try.pinned (OpenSpec.ofChange fnIsClearSpec)

/-- ITS FALSE NEIGHBOUR: 'it returns false'. Refute it at one input. -/
def fnIsClearWrong : ChangeSpec := { name := "fnIsClear", fn := fun _ => fun
  | [d] => { results := [.lit (.bool false)], args := [d] }
  | _ => none }
def FnIsClearWrongFalsely : Prop := fnIsClearRow.holds Try.pinned (OpenSpec.ofChange fnIsClearWrong)

/-- 'laws.FnLoadAt': WHATEVER THE INPUT: true; the input reads as it did. -/
def fnLoadAtSpec : ChangeSpec := { name := "fnLoadAt", fn := fun _ => fun
  | [d] => { results := [.lit (.bool true)], args := [d] }
  | _ => none }
def fnLoadAtRow : OpenClaim := { program := "ytfjncipekjnbjaa", sum := "b8becdfe5dd366f3516288caadf1d984dd804f75f20bbd6b131c216b92234875", func := "loop.example/salesbybids/laws.FnLoadAt", spec := "fnLoadAt", unfollowed := true, recurses := true, apart := false }
def FnLoadAtSaid : Prop := fnLoadAtRow.holds Try.pinned (OpenSpec.ofChange fnLoadAtSpec)

/-- ITS FALSE NEIGHBOUR: 'it returns false'. Refute it at one input. -/
def fnLoadAtWrong : ChangeSpec := { name := "fnLoadAt", fn := fun _ => fun
  | [d] => { results := [.lit (.bool false)], args := [d] }
  | _ => none }
def FnLoadAtWrongFalsely : Prop := fnLoadAtRow.holds Try.pinned (OpenSpec.ofChange fnLoadAtWrong)

/-- 'laws.FnClimbPrices': WHATEVER THE INPUT: true; the input reads as it did. -/
def fnClimbPricesSpec : ChangeSpec := { name := "fnClimbPrices", fn := fun _ => fun
  | [d] => { results := [.lit (.bool true)], args := [d] }
  | _ => none }
def fnClimbPricesRow : OpenClaim := { program := "ytfjncipekjnbjaa", sum := "b8becdfe5dd366f3516288caadf1d984dd804f75f20bbd6b131c216b92234875", func := "loop.example/salesbybids/laws.FnClimbPrices", spec := "fnClimbPrices", unfollowed := true, recurses := true, apart := false }
def FnClimbPricesSaid : Prop := fnClimbPricesRow.holds Try.pinned (OpenSpec.ofChange fnClimbPricesSpec)

/-- ITS FALSE NEIGHBOUR: 'it returns false'. Refute it at one input. -/
def fnClimbPricesWrong : ChangeSpec := { name := "fnClimbPrices", fn := fun _ => fun
  | [d] => { results := [.lit (.bool false)], args := [d] }
  | _ => none }
def FnClimbPricesWrongFalsely : Prop := fnClimbPricesRow.holds Try.pinned (OpenSpec.ofChange fnClimbPricesWrong)

/-- 'laws.FnLeastPrices': WHATEVER THE INPUT: true; the input reads as it did. -/
def fnLeastPricesSpec : ChangeSpec := { name := "fnLeastPrices", fn := fun _ => fun
  | [d] => { results := [.lit (.bool true)], args := [d] }
  | _ => none }
def fnLeastPricesRow : OpenClaim := { program := "ytfjncipekjnbjaa", sum := "b8becdfe5dd366f3516288caadf1d984dd804f75f20bbd6b131c216b92234875", func := "loop.example/salesbybids/laws.FnLeastPrices", spec := "fnLeastPrices", unfollowed := true, recurses := true, apart := false }
def FnLeastPricesSaid : Prop := fnLeastPricesRow.holds Try.pinned (OpenSpec.ofChange fnLeastPricesSpec)

/-- ITS FALSE NEIGHBOUR: 'it returns false'. Refute it at one input. -/
def fnLeastPricesWrong : ChangeSpec := { name := "fnLeastPrices", fn := fun _ => fun
  | [d] => { results := [.lit (.bool false)], args := [d] }
  | _ => none }
def FnLeastPricesWrongFalsely : Prop := fnLeastPricesRow.holds Try.pinned (OpenSpec.ofChange fnLeastPricesWrong)

/-- 'laws.FnMostPrices': WHATEVER THE INPUT: true; the input reads as it did. -/
def fnMostPricesSpec : ChangeSpec := { name := "fnMostPrices", fn := fun _ => fun
  | [d] => { results := [.lit (.bool true)], args := [d] }
  | _ => none }
def fnMostPricesRow : OpenClaim := { program := "ytfjncipekjnbjaa", sum := "b8becdfe5dd366f3516288caadf1d984dd804f75f20bbd6b131c216b92234875", func := "loop.example/salesbybids/laws.FnMostPrices", spec := "fnMostPrices", unfollowed := true, recurses := true, apart := false }
def FnMostPricesSaid : Prop := fnMostPricesRow.holds Try.pinned (OpenSpec.ofChange fnMostPricesSpec)

/-- ITS FALSE NEIGHBOUR: 'it returns false'. Refute it at one input. -/
def fnMostPricesWrong : ChangeSpec := { name := "fnMostPrices", fn := fun _ => fun
  | [d] => { results := [.lit (.bool false)], args := [d] }
  | _ => none }
def FnMostPricesWrongFalsely : Prop := fnMostPricesRow.holds Try.pinned (OpenSpec.ofChange fnMostPricesWrong)

/- THE SECOND FORM. 'bulk': how many values and letters a reading holds, each counted each time it is reached (what is shared counts as often as it is met; a slice's spare places count too). A statement '..UptoSaid' is the law's where the arguments, and the package variables that the reading takes, are together of bulk at most 1048576: NARROWER than '..Said'. Prove '..Said' where nothing that the law and all that it calls make is longer than what came in: it says more and counts as full. Else prove '..UptoSaid'. A law counts once. -/
mutual
def uptoBulk {H : Type} : DataW H → Nat
  | .lit (.string bytes) => bytes.length + 1
  | .lit _ => 1
  | .nil => 1
  | .ptr d => uptoBulk d + 1
  | .slice elems spare => uptoBulkAll elems + uptoBulkAll spare + 1
  | .agg parts => uptoBulkAll parts + 1
  | .iface _ d => uptoBulk d + 1
  | .map entries => uptoBulkEntries entries + 1
  | .held _ => 1
def uptoBulkAll {H : Type} : List (DataW H) → Nat
  | [] => 0
  | d :: r => uptoBulk d + uptoBulkAll r
def uptoBulkEntries {H : Type} : List (Lit × DataW H) → Nat
  | [] => 0
  | x :: r => uptoBulkEntry x + uptoBulkEntries r
def uptoBulkEntry {H : Type} : Lit × DataW H → Nat
  | (.string bytes, d) => bytes.length + uptoBulk d + 1
  | (_, d) => uptoBulk d + 1
 end
def uptoSmall : (H : Type) → List (DataW H) → Bool := fun _ ds => decide (uptoBulkAll ds ≤ 1048576)
def OpenSpec.upto (s : _root_.Go.ChangeSpec) : _root_.Go.OpenSpec := { _root_.Go.OpenSpec.ofChange s with cond := some uptoSmall }

/-- 'laws.FnGainAsTwo', WHERE WHAT IT READS IS OF BULK AT MOST 1048576: true; the input reads as it did. -/
def fnGainAsTwoUptoRow : OpenClaim := { program := "ytfjncipekjnbjaa", sum := "b8becdfe5dd366f3516288caadf1d984dd804f75f20bbd6b131c216b92234875", func := "loop.example/salesbybids/laws.FnGainAsTwo", spec := "fnGainAsTwo", unfollowed := true, recurses := true, apart := false, narrowed := true }
def FnGainAsTwoUptoSaid : Prop := fnGainAsTwoUptoRow.holds Try.pinned (OpenSpec.upto fnGainAsTwoSpec)

/-- 'laws.FnSurplusAt', WHERE WHAT IT READS IS OF BULK AT MOST 1048576: true; the input reads as it did. -/
def fnSurplusAtUptoRow : OpenClaim := { program := "ytfjncipekjnbjaa", sum := "b8becdfe5dd366f3516288caadf1d984dd804f75f20bbd6b131c216b92234875", func := "loop.example/salesbybids/laws.FnSurplusAt", spec := "fnSurplusAt", unfollowed := true, recurses := true, apart := false, narrowed := true }
def FnSurplusAtUptoSaid : Prop := fnSurplusAtUptoRow.holds Try.pinned (OpenSpec.upto fnSurplusAtSpec)

/-- 'laws.FnDemandAt', WHERE WHAT IT READS IS OF BULK AT MOST 1048576: true; the input reads as it did. -/
def fnDemandAtUptoRow : OpenClaim := { program := "ytfjncipekjnbjaa", sum := "b8becdfe5dd366f3516288caadf1d984dd804f75f20bbd6b131c216b92234875", func := "loop.example/salesbybids/laws.FnDemandAt", spec := "fnDemandAt", unfollowed := true, recurses := true, apart := false, narrowed := true }
def FnDemandAtUptoSaid : Prop := fnDemandAtUptoRow.holds Try.pinned (OpenSpec.upto fnDemandAtSpec)

/-- 'laws.FnSwapsByThrees', WHERE WHAT IT READS IS OF BULK AT MOST 1048576: true; the input reads as it did. -/
def fnSwapsByThreesUptoRow : OpenClaim := { program := "ytfjncipekjnbjaa", sum := "b8becdfe5dd366f3516288caadf1d984dd804f75f20bbd6b131c216b92234875", func := "loop.example/salesbybids/laws.FnSwapsByThrees", spec := "fnSwapsByThrees", unfollowed := true, recurses := true, apart := false, narrowed := true }
def FnSwapsByThreesUptoSaid : Prop := fnSwapsByThreesUptoRow.holds Try.pinned (OpenSpec.upto fnSwapsByThreesSpec)

/-- 'laws.FnKeepsDemand', WHERE WHAT IT READS IS OF BULK AT MOST 1048576: true; the input reads as it did. -/
def fnKeepsDemandUptoRow : OpenClaim := { program := "ytfjncipekjnbjaa", sum := "b8becdfe5dd366f3516288caadf1d984dd804f75f20bbd6b131c216b92234875", func := "loop.example/salesbybids/laws.FnKeepsDemand", spec := "fnKeepsDemand", unfollowed := true, recurses := true, apart := false, narrowed := true }
def FnKeepsDemandUptoSaid : Prop := fnKeepsDemandUptoRow.holds Try.pinned (OpenSpec.upto fnKeepsDemandSpec)

/-- 'laws.FnJoinTables', WHERE WHAT IT READS IS OF BULK AT MOST 1048576: true; the input reads as it did. -/
def fnJoinTablesUptoRow : OpenClaim := { program := "ytfjncipekjnbjaa", sum := "b8becdfe5dd366f3516288caadf1d984dd804f75f20bbd6b131c216b92234875", func := "loop.example/salesbybids/laws.FnJoinTables", spec := "fnJoinTables", recurses := true, apart := false, narrowed := true }
def FnJoinTablesUptoSaid : Prop := fnJoinTablesUptoRow.holds Try.pinned (OpenSpec.upto fnJoinTablesSpec)

/-- 'laws.FnIsClear', WHERE WHAT IT READS IS OF BULK AT MOST 1048576: true; the input reads as it did. -/
def fnIsClearUptoRow : OpenClaim := { program := "ytfjncipekjnbjaa", sum := "b8becdfe5dd366f3516288caadf1d984dd804f75f20bbd6b131c216b92234875", func := "loop.example/salesbybids/laws.FnIsClear", spec := "fnIsClear", unfollowed := true, recurses := true, apart := false, narrowed := true }
def FnIsClearUptoSaid : Prop := fnIsClearUptoRow.holds Try.pinned (OpenSpec.upto fnIsClearSpec)

/-- 'laws.FnLoadAt', WHERE WHAT IT READS IS OF BULK AT MOST 1048576: true; the input reads as it did. -/
def fnLoadAtUptoRow : OpenClaim := { program := "ytfjncipekjnbjaa", sum := "b8becdfe5dd366f3516288caadf1d984dd804f75f20bbd6b131c216b92234875", func := "loop.example/salesbybids/laws.FnLoadAt", spec := "fnLoadAt", unfollowed := true, recurses := true, apart := false, narrowed := true }
def FnLoadAtUptoSaid : Prop := fnLoadAtUptoRow.holds Try.pinned (OpenSpec.upto fnLoadAtSpec)

/-- 'laws.FnClimbPrices', WHERE WHAT IT READS IS OF BULK AT MOST 1048576: true; the input reads as it did. -/
def fnClimbPricesUptoRow : OpenClaim := { program := "ytfjncipekjnbjaa", sum := "b8becdfe5dd366f3516288caadf1d984dd804f75f20bbd6b131c216b92234875", func := "loop.example/salesbybids/laws.FnClimbPrices", spec := "fnClimbPrices", unfollowed := true, recurses := true, apart := false, narrowed := true }
def FnClimbPricesUptoSaid : Prop := fnClimbPricesUptoRow.holds Try.pinned (OpenSpec.upto fnClimbPricesSpec)

/-- 'laws.FnLeastPrices', WHERE WHAT IT READS IS OF BULK AT MOST 1048576: true; the input reads as it did. -/
def fnLeastPricesUptoRow : OpenClaim := { program := "ytfjncipekjnbjaa", sum := "b8becdfe5dd366f3516288caadf1d984dd804f75f20bbd6b131c216b92234875", func := "loop.example/salesbybids/laws.FnLeastPrices", spec := "fnLeastPrices", unfollowed := true, recurses := true, apart := false, narrowed := true }
def FnLeastPricesUptoSaid : Prop := fnLeastPricesUptoRow.holds Try.pinned (OpenSpec.upto fnLeastPricesSpec)

/-- 'laws.FnMostPrices', WHERE WHAT IT READS IS OF BULK AT MOST 1048576: true; the input reads as it did. -/
def fnMostPricesUptoRow : OpenClaim := { program := "ytfjncipekjnbjaa", sum := "b8becdfe5dd366f3516288caadf1d984dd804f75f20bbd6b131c216b92234875", func := "loop.example/salesbybids/laws.FnMostPrices", spec := "fnMostPrices", unfollowed := true, recurses := true, apart := false, narrowed := true }
def FnMostPricesUptoSaid : Prop := fnMostPricesUptoRow.holds Try.pinned (OpenSpec.upto fnMostPricesSpec)

end Rows
end Go.Proofs.Ytfjncipekjnbjaa
