/-
  No cell of these rows narrows 'for every input' (looked for: loops, veiled, ifaces, maps, wideKeys, modest, calm, conditions, laid).
  DERIVED. THE GIVEN ROWS OF THIS SEAT. 12 by the template 'for every input the law returns true; each argument reads behind the call as it read before'; 0 by the template 'total and deterministic' (their statements: YtccbjgajmjcpjaaTotals.lean).
  GIVEN WITH THE SEED: the statements are not yours to turn. If you find one false, say at which input.
  Laid BY PROGRAM, IN A SANDBOX (cutbox-rows.mjs): the forced cells as the released guide's own fill.sh prints them over the translation 9f4a3ea04d69a89a… (all of the seat's roots in one cut). By AI agents, Wed Nov 11 2026. No macro, syntax, notation, axiom, sorry.
-/
import Derived.Test.YtccbjgajmjcpjaaChecked
import GoSem.Claim
import GoSem.ClaimJoined
import GoSem.ClaimMapViews
import Derived.JoinedTies
import Derived.KernelRfl
namespace Go.Proofs.Ytccbjgajmjcpjaa
/- THE CELL 'sum', in the pinned program and in every row, IS THE sha256 OF THE DUMP (.gsa) THAT YtccbjgajmjcpjaaProg.lean LOADS. Nothing in Lean hashes anything: it is a label: what it is worth is what the hold of that sum in a sandbox is worth. -/
noncomputable def Try.pinned : Pinned := { name := "ytccbjgajmjcpjaa", sum := "9f4a3ea04d69a89a5bd063acefec8dc712a2e7a37a342a3f7a3c0547c0bb9325", checked := Try.checked }
namespace Rows
def none {H : Type} : Left H := { results := [], args := [] }

/-- 'laws.FnLoadAt': WHATEVER THE INPUT: true; the input reads as it did. -/
def fnLoadAtSpec : ChangeSpec := { name := "fnLoadAt", fn := fun _ => fun
  | [d] => { results := [.lit (.bool true)], args := [d] }
  | _ => none }
def fnLoadAtRow : OpenClaim := { program := "ytccbjgajmjcpjaa", sum := "9f4a3ea04d69a89a5bd063acefec8dc712a2e7a37a342a3f7a3c0547c0bb9325", func := "loop.example/salesbybids/laws.FnLoadAt", spec := "fnLoadAt", unfollowed := true, recurses := true, apart := false }
def FnLoadAtSaid : Prop := fnLoadAtRow.holds Try.pinned (OpenSpec.ofChange fnLoadAtSpec)

/-- ITS FALSE NEIGHBOUR: 'it returns false'. Refute it at one input. -/
def fnLoadAtWrong : ChangeSpec := { name := "fnLoadAt", fn := fun _ => fun
  | [d] => { results := [.lit (.bool false)], args := [d] }
  | _ => none }
def FnLoadAtWrongFalsely : Prop := fnLoadAtRow.holds Try.pinned (OpenSpec.ofChange fnLoadAtWrong)

/-- 'laws.FnClimbPrices': WHATEVER THE INPUT: true; the input reads as it did. -/
def fnClimbPricesSpec : ChangeSpec := { name := "fnClimbPrices", fn := fun _ => fun
  | [d] => { results := [.lit (.bool true)], args := [d] }
  | _ => none }
def fnClimbPricesRow : OpenClaim := { program := "ytccbjgajmjcpjaa", sum := "9f4a3ea04d69a89a5bd063acefec8dc712a2e7a37a342a3f7a3c0547c0bb9325", func := "loop.example/salesbybids/laws.FnClimbPrices", spec := "fnClimbPrices", unfollowed := true, recurses := true, apart := false }
def FnClimbPricesSaid : Prop := fnClimbPricesRow.holds Try.pinned (OpenSpec.ofChange fnClimbPricesSpec)

/-- ITS FALSE NEIGHBOUR: 'it returns false'. Refute it at one input. -/
def fnClimbPricesWrong : ChangeSpec := { name := "fnClimbPrices", fn := fun _ => fun
  | [d] => { results := [.lit (.bool false)], args := [d] }
  | _ => none }
def FnClimbPricesWrongFalsely : Prop := fnClimbPricesRow.holds Try.pinned (OpenSpec.ofChange fnClimbPricesWrong)

/-- 'laws.FnLeastPrices': WHATEVER THE INPUT: true; the input reads as it did. -/
def fnLeastPricesSpec : ChangeSpec := { name := "fnLeastPrices", fn := fun _ => fun
  | [d] => { results := [.lit (.bool true)], args := [d] }
  | _ => none }
def fnLeastPricesRow : OpenClaim := { program := "ytccbjgajmjcpjaa", sum := "9f4a3ea04d69a89a5bd063acefec8dc712a2e7a37a342a3f7a3c0547c0bb9325", func := "loop.example/salesbybids/laws.FnLeastPrices", spec := "fnLeastPrices", unfollowed := true, recurses := true, apart := false }
def FnLeastPricesSaid : Prop := fnLeastPricesRow.holds Try.pinned (OpenSpec.ofChange fnLeastPricesSpec)

/-- ITS FALSE NEIGHBOUR: 'it returns false'. Refute it at one input. -/
def fnLeastPricesWrong : ChangeSpec := { name := "fnLeastPrices", fn := fun _ => fun
  | [d] => { results := [.lit (.bool false)], args := [d] }
  | _ => none }
def FnLeastPricesWrongFalsely : Prop := fnLeastPricesRow.holds Try.pinned (OpenSpec.ofChange fnLeastPricesWrong)

/-- 'laws.FnClearPrices': WHATEVER THE INPUT: true; the input reads as it did. -/
def fnClearPricesSpec : ChangeSpec := { name := "fnClearPrices", fn := fun _ => fun
  | [d] => { results := [.lit (.bool true)], args := [d] }
  | _ => none }
def fnClearPricesRow : OpenClaim := { program := "ytccbjgajmjcpjaa", sum := "9f4a3ea04d69a89a5bd063acefec8dc712a2e7a37a342a3f7a3c0547c0bb9325", func := "loop.example/salesbybids/laws.FnClearPrices", spec := "fnClearPrices", unfollowed := true, recurses := true, apart := false }
def FnClearPricesSaid : Prop := fnClearPricesRow.holds Try.pinned (OpenSpec.ofChange fnClearPricesSpec)

/-- ITS FALSE NEIGHBOUR: 'it returns false'. Refute it at one input. -/
def fnClearPricesWrong : ChangeSpec := { name := "fnClearPrices", fn := fun _ => fun
  | [d] => { results := [.lit (.bool false)], args := [d] }
  | _ => none }
def FnClearPricesWrongFalsely : Prop := fnClearPricesRow.holds Try.pinned (OpenSpec.ofChange fnClearPricesWrong)

/-- 'laws.FnPairPrices': WHATEVER THE INPUT: true; the input reads as it did. -/
def fnPairPricesSpec : ChangeSpec := { name := "fnPairPrices", fn := fun _ => fun
  | [d] => { results := [.lit (.bool true)], args := [d] }
  | _ => none }
def fnPairPricesRow : OpenClaim := { program := "ytccbjgajmjcpjaa", sum := "9f4a3ea04d69a89a5bd063acefec8dc712a2e7a37a342a3f7a3c0547c0bb9325", func := "loop.example/salesbybids/laws.FnPairPrices", spec := "fnPairPrices", unfollowed := true, recurses := true, apart := false }
def FnPairPricesSaid : Prop := fnPairPricesRow.holds Try.pinned (OpenSpec.ofChange fnPairPricesSpec)

/-- ITS FALSE NEIGHBOUR: 'it returns false'. Refute it at one input. -/
def fnPairPricesWrong : ChangeSpec := { name := "fnPairPrices", fn := fun _ => fun
  | [d] => { results := [.lit (.bool false)], args := [d] }
  | _ => none }
def FnPairPricesWrongFalsely : Prop := fnPairPricesRow.holds Try.pinned (OpenSpec.ofChange fnPairPricesWrong)

/-- 'laws.FnGoWithPairs': WHATEVER THE INPUT: true; the input reads as it did. -/
def fnGoWithPairsSpec : ChangeSpec := { name := "fnGoWithPairs", fn := fun _ => fun
  | [d] => { results := [.lit (.bool true)], args := [d] }
  | _ => none }
def fnGoWithPairsRow : OpenClaim := { program := "ytccbjgajmjcpjaa", sum := "9f4a3ea04d69a89a5bd063acefec8dc712a2e7a37a342a3f7a3c0547c0bb9325", func := "loop.example/salesbybids/laws.FnGoWithPairs", spec := "fnGoWithPairs", unfollowed := true, recurses := true, apart := false }
def FnGoWithPairsSaid : Prop := fnGoWithPairsRow.holds Try.pinned (OpenSpec.ofChange fnGoWithPairsSpec)

/-- ITS FALSE NEIGHBOUR: 'it returns false'. Refute it at one input. -/
def fnGoWithPairsWrong : ChangeSpec := { name := "fnGoWithPairs", fn := fun _ => fun
  | [d] => { results := [.lit (.bool false)], args := [d] }
  | _ => none }
def FnGoWithPairsWrongFalsely : Prop := fnGoWithPairsRow.holds Try.pinned (OpenSpec.ofChange fnGoWithPairsWrong)

/-- 'laws.FnMostPairPrices': WHATEVER THE INPUT: true; the input reads as it did. -/
def fnMostPairPricesSpec : ChangeSpec := { name := "fnMostPairPrices", fn := fun _ => fun
  | [d] => { results := [.lit (.bool true)], args := [d] }
  | _ => none }
def fnMostPairPricesRow : OpenClaim := { program := "ytccbjgajmjcpjaa", sum := "9f4a3ea04d69a89a5bd063acefec8dc712a2e7a37a342a3f7a3c0547c0bb9325", func := "loop.example/salesbybids/laws.FnMostPairPrices", spec := "fnMostPairPrices", unfollowed := true, recurses := true, apart := false }
def FnMostPairPricesSaid : Prop := fnMostPairPricesRow.holds Try.pinned (OpenSpec.ofChange fnMostPairPricesSpec)

/-- ITS FALSE NEIGHBOUR: 'it returns false'. Refute it at one input. -/
def fnMostPairPricesWrong : ChangeSpec := { name := "fnMostPairPrices", fn := fun _ => fun
  | [d] => { results := [.lit (.bool false)], args := [d] }
  | _ => none }
def FnMostPairPricesWrongFalsely : Prop := fnMostPairPricesRow.holds Try.pinned (OpenSpec.ofChange fnMostPairPricesWrong)

/-- 'laws.FnWorthWith': WHATEVER THE INPUT: true; the input reads as it did. -/
def fnWorthWithSpec : ChangeSpec := { name := "fnWorthWith", fn := fun _ => fun
  | [d] => { results := [.lit (.bool true)], args := [d] }
  | _ => none }
def fnWorthWithRow : OpenClaim := { program := "ytccbjgajmjcpjaa", sum := "9f4a3ea04d69a89a5bd063acefec8dc712a2e7a37a342a3f7a3c0547c0bb9325", func := "loop.example/salesbybids/laws.FnWorthWith", spec := "fnWorthWith", unfollowed := true, recurses := true, apart := false }
def FnWorthWithSaid : Prop := fnWorthWithRow.holds Try.pinned (OpenSpec.ofChange fnWorthWithSpec)

/-- ITS FALSE NEIGHBOUR: 'it returns false'. Refute it at one input. -/
def fnWorthWithWrong : ChangeSpec := { name := "fnWorthWith", fn := fun _ => fun
  | [d] => { results := [.lit (.bool false)], args := [d] }
  | _ => none }
def FnWorthWithWrongFalsely : Prop := fnWorthWithRow.holds Try.pinned (OpenSpec.ofChange fnWorthWithWrong)

/-- 'laws.FnInCore': WHATEVER THE INPUT: true; the input reads as it did. -/
def fnInCoreSpec : ChangeSpec := { name := "fnInCore", fn := fun _ => fun
  | [d] => { results := [.lit (.bool true)], args := [d] }
  | _ => none }
def fnInCoreRow : OpenClaim := { program := "ytccbjgajmjcpjaa", sum := "9f4a3ea04d69a89a5bd063acefec8dc712a2e7a37a342a3f7a3c0547c0bb9325", func := "loop.example/salesbybids/laws.FnInCore", spec := "fnInCore", unfollowed := true, recurses := true, apart := false }
def FnInCoreSaid : Prop := fnInCoreRow.holds Try.pinned (OpenSpec.ofChange fnInCoreSpec)

/-- ITS FALSE NEIGHBOUR: 'it returns false'. Refute it at one input. -/
def fnInCoreWrong : ChangeSpec := { name := "fnInCore", fn := fun _ => fun
  | [d] => { results := [.lit (.bool false)], args := [d] }
  | _ => none }
def FnInCoreWrongFalsely : Prop := fnInCoreRow.holds Try.pinned (OpenSpec.ofChange fnInCoreWrong)

/-- 'laws.FnLeastCore': WHATEVER THE INPUT: true; the input reads as it did. -/
def fnLeastCoreSpec : ChangeSpec := { name := "fnLeastCore", fn := fun _ => fun
  | [d] => { results := [.lit (.bool true)], args := [d] }
  | _ => none }
def fnLeastCoreRow : OpenClaim := { program := "ytccbjgajmjcpjaa", sum := "9f4a3ea04d69a89a5bd063acefec8dc712a2e7a37a342a3f7a3c0547c0bb9325", func := "loop.example/salesbybids/laws.FnLeastCore", spec := "fnLeastCore", unfollowed := true, recurses := true, apart := false }
def FnLeastCoreSaid : Prop := fnLeastCoreRow.holds Try.pinned (OpenSpec.ofChange fnLeastCoreSpec)

/-- ITS FALSE NEIGHBOUR: 'it returns false'. Refute it at one input. -/
def fnLeastCoreWrong : ChangeSpec := { name := "fnLeastCore", fn := fun _ => fun
  | [d] => { results := [.lit (.bool false)], args := [d] }
  | _ => none }
def FnLeastCoreWrongFalsely : Prop := fnLeastCoreRow.holds Try.pinned (OpenSpec.ofChange fnLeastCoreWrong)

/-- 'laws.FnIsNested': WHATEVER THE INPUT: true; the input reads as it did. -/
def fnIsNestedSpec : ChangeSpec := { name := "fnIsNested", fn := fun _ => fun
  | [d] => { results := [.lit (.bool true)], args := [d] }
  | _ => none }
def fnIsNestedRow : OpenClaim := { program := "ytccbjgajmjcpjaa", sum := "9f4a3ea04d69a89a5bd063acefec8dc712a2e7a37a342a3f7a3c0547c0bb9325", func := "loop.example/salesbybids/laws.FnIsNested", spec := "fnIsNested", unfollowed := true, recurses := true, apart := false }
def FnIsNestedSaid : Prop := fnIsNestedRow.holds Try.pinned (OpenSpec.ofChange fnIsNestedSpec)

/-- ITS FALSE NEIGHBOUR: 'it returns false'. Refute it at one input. -/
def fnIsNestedWrong : ChangeSpec := { name := "fnIsNested", fn := fun _ => fun
  | [d] => { results := [.lit (.bool false)], args := [d] }
  | _ => none }
def FnIsNestedWrongFalsely : Prop := fnIsNestedRow.holds Try.pinned (OpenSpec.ofChange fnIsNestedWrong)

/-- 'laws.FnClimbIsPairs': WHATEVER THE INPUT: true; the input reads as it did. -/
def fnClimbIsPairsSpec : ChangeSpec := { name := "fnClimbIsPairs", fn := fun _ => fun
  | [d] => { results := [.lit (.bool true)], args := [d] }
  | _ => none }
def fnClimbIsPairsRow : OpenClaim := { program := "ytccbjgajmjcpjaa", sum := "9f4a3ea04d69a89a5bd063acefec8dc712a2e7a37a342a3f7a3c0547c0bb9325", func := "loop.example/salesbybids/laws.FnClimbIsPairs", spec := "fnClimbIsPairs", unfollowed := true, recurses := true, apart := false }
def FnClimbIsPairsSaid : Prop := fnClimbIsPairsRow.holds Try.pinned (OpenSpec.ofChange fnClimbIsPairsSpec)

/-- ITS FALSE NEIGHBOUR: 'it returns false'. Refute it at one input. -/
def fnClimbIsPairsWrong : ChangeSpec := { name := "fnClimbIsPairs", fn := fun _ => fun
  | [d] => { results := [.lit (.bool false)], args := [d] }
  | _ => none }
def FnClimbIsPairsWrongFalsely : Prop := fnClimbIsPairsRow.holds Try.pinned (OpenSpec.ofChange fnClimbIsPairsWrong)

/- THE SECOND FORM. 'bulk': how many values and letters a reading holds, each counted each time it is reached (what is shared counts as often as it is met; a slice's spare places count too). A statement '..UptoSaid' is the law's where the arguments, and the package variables that the reading takes, are together of bulk at most 1048576: NARROWER than '..Said'. Prove '..Said' where nothing that the law and all that it calls make is longer than what came in: it says more and counts as full. Else prove '..UptoSaid'. A law counts once. -/
mutual
def uptoBulk {H : Type} : DataW H → Nat
  | .lit (.string bytes) => bytes.length + 1
  | .lit _ => 1
  | .nil => 1
  | .ptr d => uptoBulk d + 1
  | .slice elems spare => uptoBulkAll elems + uptoBulkAll spare + 1
  | .agg parts => uptoBulkAll parts + 1
  | .iface _ d => uptoBulk d + 1
  | .map entries => uptoBulkEntries entries + 1
  | .held _ => 1
def uptoBulkAll {H : Type} : List (DataW H) → Nat
  | [] => 0
  | d :: r => uptoBulk d + uptoBulkAll r
def uptoBulkEntries {H : Type} : List (Lit × DataW H) → Nat
  | [] => 0
  | x :: r => uptoBulkEntry x + uptoBulkEntries r
def uptoBulkEntry {H : Type} : Lit × DataW H → Nat
  | (.string bytes, d) => bytes.length + uptoBulk d + 1
  | (_, d) => uptoBulk d + 1
 end
def uptoSmall : (H : Type) → List (DataW H) → Bool := fun _ ds => decide (uptoBulkAll ds ≤ 1048576)
def OpenSpec.upto (s : _root_.Go.ChangeSpec) : _root_.Go.OpenSpec := { _root_.Go.OpenSpec.ofChange s with cond := some uptoSmall }

/-- 'laws.FnLoadAt', WHERE WHAT IT READS IS OF BULK AT MOST 1048576: true; the input reads as it did. -/
def fnLoadAtUptoRow : OpenClaim := { program := "ytccbjgajmjcpjaa", sum := "9f4a3ea04d69a89a5bd063acefec8dc712a2e7a37a342a3f7a3c0547c0bb9325", func := "loop.example/salesbybids/laws.FnLoadAt", spec := "fnLoadAt", unfollowed := true, recurses := true, apart := false, narrowed := true }
def FnLoadAtUptoSaid : Prop := fnLoadAtUptoRow.holds Try.pinned (OpenSpec.upto fnLoadAtSpec)

/-- 'laws.FnClimbPrices', WHERE WHAT IT READS IS OF BULK AT MOST 1048576: true; the input reads as it did. -/
def fnClimbPricesUptoRow : OpenClaim := { program := "ytccbjgajmjcpjaa", sum := "9f4a3ea04d69a89a5bd063acefec8dc712a2e7a37a342a3f7a3c0547c0bb9325", func := "loop.example/salesbybids/laws.FnClimbPrices", spec := "fnClimbPrices", unfollowed := true, recurses := true, apart := false, narrowed := true }
def FnClimbPricesUptoSaid : Prop := fnClimbPricesUptoRow.holds Try.pinned (OpenSpec.upto fnClimbPricesSpec)

/-- 'laws.FnLeastPrices', WHERE WHAT IT READS IS OF BULK AT MOST 1048576: true; the input reads as it did. -/
def fnLeastPricesUptoRow : OpenClaim := { program := "ytccbjgajmjcpjaa", sum := "9f4a3ea04d69a89a5bd063acefec8dc712a2e7a37a342a3f7a3c0547c0bb9325", func := "loop.example/salesbybids/laws.FnLeastPrices", spec := "fnLeastPrices", unfollowed := true, recurses := true, apart := false, narrowed := true }
def FnLeastPricesUptoSaid : Prop := fnLeastPricesUptoRow.holds Try.pinned (OpenSpec.upto fnLeastPricesSpec)

/-- 'laws.FnClearPrices', WHERE WHAT IT READS IS OF BULK AT MOST 1048576: true; the input reads as it did. -/
def fnClearPricesUptoRow : OpenClaim := { program := "ytccbjgajmjcpjaa", sum := "9f4a3ea04d69a89a5bd063acefec8dc712a2e7a37a342a3f7a3c0547c0bb9325", func := "loop.example/salesbybids/laws.FnClearPrices", spec := "fnClearPrices", unfollowed := true, recurses := true, apart := false, narrowed := true }
def FnClearPricesUptoSaid : Prop := fnClearPricesUptoRow.holds Try.pinned (OpenSpec.upto fnClearPricesSpec)

/-- 'laws.FnPairPrices', WHERE WHAT IT READS IS OF BULK AT MOST 1048576: true; the input reads as it did. -/
def fnPairPricesUptoRow : OpenClaim := { program := "ytccbjgajmjcpjaa", sum := "9f4a3ea04d69a89a5bd063acefec8dc712a2e7a37a342a3f7a3c0547c0bb9325", func := "loop.example/salesbybids/laws.FnPairPrices", spec := "fnPairPrices", unfollowed := true, recurses := true, apart := false, narrowed := true }
def FnPairPricesUptoSaid : Prop := fnPairPricesUptoRow.holds Try.pinned (OpenSpec.upto fnPairPricesSpec)

/-- 'laws.FnGoWithPairs', WHERE WHAT IT READS IS OF BULK AT MOST 1048576: true; the input reads as it did. -/
def fnGoWithPairsUptoRow : OpenClaim := { program := "ytccbjgajmjcpjaa", sum := "9f4a3ea04d69a89a5bd063acefec8dc712a2e7a37a342a3f7a3c0547c0bb9325", func := "loop.example/salesbybids/laws.FnGoWithPairs", spec := "fnGoWithPairs", unfollowed := true, recurses := true, apart := false, narrowed := true }
def FnGoWithPairsUptoSaid : Prop := fnGoWithPairsUptoRow.holds Try.pinned (OpenSpec.upto fnGoWithPairsSpec)

/-- 'laws.FnMostPairPrices', WHERE WHAT IT READS IS OF BULK AT MOST 1048576: true; the input reads as it did. -/
def fnMostPairPricesUptoRow : OpenClaim := { program := "ytccbjgajmjcpjaa", sum := "9f4a3ea04d69a89a5bd063acefec8dc712a2e7a37a342a3f7a3c0547c0bb9325", func := "loop.example/salesbybids/laws.FnMostPairPrices", spec := "fnMostPairPrices", unfollowed := true, recurses := true, apart := false, narrowed := true }
def FnMostPairPricesUptoSaid : Prop := fnMostPairPricesUptoRow.holds Try.pinned (OpenSpec.upto fnMostPairPricesSpec)

/-- 'laws.FnWorthWith', WHERE WHAT IT READS IS OF BULK AT MOST 1048576: true; the input reads as it did. -/
def fnWorthWithUptoRow : OpenClaim := { program := "ytccbjgajmjcpjaa", sum := "9f4a3ea04d69a89a5bd063acefec8dc712a2e7a37a342a3f7a3c0547c0bb9325", func := "loop.example/salesbybids/laws.FnWorthWith", spec := "fnWorthWith", unfollowed := true, recurses := true, apart := false, narrowed := true }
def FnWorthWithUptoSaid : Prop := fnWorthWithUptoRow.holds Try.pinned (OpenSpec.upto fnWorthWithSpec)

/-- 'laws.FnInCore', WHERE WHAT IT READS IS OF BULK AT MOST 1048576: true; the input reads as it did. -/
def fnInCoreUptoRow : OpenClaim := { program := "ytccbjgajmjcpjaa", sum := "9f4a3ea04d69a89a5bd063acefec8dc712a2e7a37a342a3f7a3c0547c0bb9325", func := "loop.example/salesbybids/laws.FnInCore", spec := "fnInCore", unfollowed := true, recurses := true, apart := false, narrowed := true }
def FnInCoreUptoSaid : Prop := fnInCoreUptoRow.holds Try.pinned (OpenSpec.upto fnInCoreSpec)

/-- 'laws.FnLeastCore', WHERE WHAT IT READS IS OF BULK AT MOST 1048576: true; the input reads as it did. -/
def fnLeastCoreUptoRow : OpenClaim := { program := "ytccbjgajmjcpjaa", sum := "9f4a3ea04d69a89a5bd063acefec8dc712a2e7a37a342a3f7a3c0547c0bb9325", func := "loop.example/salesbybids/laws.FnLeastCore", spec := "fnLeastCore", unfollowed := true, recurses := true, apart := false, narrowed := true }
def FnLeastCoreUptoSaid : Prop := fnLeastCoreUptoRow.holds Try.pinned (OpenSpec.upto fnLeastCoreSpec)

/-- 'laws.FnIsNested', WHERE WHAT IT READS IS OF BULK AT MOST 1048576: true; the input reads as it did. -/
def fnIsNestedUptoRow : OpenClaim := { program := "ytccbjgajmjcpjaa", sum := "9f4a3ea04d69a89a5bd063acefec8dc712a2e7a37a342a3f7a3c0547c0bb9325", func := "loop.example/salesbybids/laws.FnIsNested", spec := "fnIsNested", unfollowed := true, recurses := true, apart := false, narrowed := true }
def FnIsNestedUptoSaid : Prop := fnIsNestedUptoRow.holds Try.pinned (OpenSpec.upto fnIsNestedSpec)

/-- 'laws.FnClimbIsPairs', WHERE WHAT IT READS IS OF BULK AT MOST 1048576: true; the input reads as it did. -/
def fnClimbIsPairsUptoRow : OpenClaim := { program := "ytccbjgajmjcpjaa", sum := "9f4a3ea04d69a89a5bd063acefec8dc712a2e7a37a342a3f7a3c0547c0bb9325", func := "loop.example/salesbybids/laws.FnClimbIsPairs", spec := "fnClimbIsPairs", unfollowed := true, recurses := true, apart := false, narrowed := true }
def FnClimbIsPairsUptoSaid : Prop := fnClimbIsPairsUptoRow.holds Try.pinned (OpenSpec.upto fnClimbIsPairsSpec)

end Rows
end Go.Proofs.Ytccbjgajmjcpjaa
