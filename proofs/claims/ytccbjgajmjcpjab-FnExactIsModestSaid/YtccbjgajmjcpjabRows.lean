/-
  No cell of these rows narrows 'for every input' (looked for: loops, veiled, ifaces, maps, wideKeys, modest, calm, conditions, laid).
  DERIVED. THE GIVEN ROWS OF THIS SEAT. 12 by the template 'for every input the law returns true; each argument reads behind the call as it read before'; 0 by the template 'total and deterministic' (their statements: YtccbjgajmjcpjabTotals.lean).
  GIVEN WITH THE SEED: the statements are not yours to turn. If you find one false, say at which input.
  Laid BY PROGRAM, IN A SANDBOX (cutbox-rows.mjs): the forced cells as the released guide's own fill.sh prints them over the translation 7509e1c7def06336… (all of the seat's roots in one cut). By AI agents, Wed Nov 11 2026. No macro, syntax, notation, axiom, sorry.
-/
import Derived.Test.YtccbjgajmjcpjabChecked
import GoSem.Claim
import GoSem.ClaimJoined
import GoSem.ClaimMapViews
import Derived.JoinedTies
import Derived.KernelRfl
namespace Go.Proofs.Ytccbjgajmjcpjab
/- THE CELL 'sum', in the pinned program and in every row, IS THE sha256 OF THE DUMP (.gsa) THAT YtccbjgajmjcpjabProg.lean LOADS. Nothing in Lean hashes anything: it is a label: what it is worth is what the hold of that sum in a sandbox is worth. -/
noncomputable def Try.pinned : Pinned := { name := "ytccbjgajmjcpjab", sum := "7509e1c7def063366403b2061ed44ec9da1f7ad85e18737c0e115dca99aa7d5e", checked := Try.checked }
namespace Rows
def none {H : Type} : Left H := { results := [], args := [] }

/-- 'laws.FnPivotsOfOnes': WHATEVER THE INPUT: true; the input reads as it did. -/
def fnPivotsOfOnesSpec : ChangeSpec := { name := "fnPivotsOfOnes", fn := fun _ => fun
  | [d] => { results := [.lit (.bool true)], args := [d] }
  | _ => none }
def fnPivotsOfOnesRow : OpenClaim := { program := "ytccbjgajmjcpjab", sum := "7509e1c7def063366403b2061ed44ec9da1f7ad85e18737c0e115dca99aa7d5e", func := "loop.example/salesbybids/laws.FnPivotsOfOnes", spec := "fnPivotsOfOnes", unfollowed := true, recurses := true, apart := false }
def FnPivotsOfOnesSaid : Prop := fnPivotsOfOnesRow.holds Try.pinned (OpenSpec.ofChange fnPivotsOfOnesSpec)

/-- ITS FALSE NEIGHBOUR: 'it returns false'. Refute it at one input. -/
def fnPivotsOfOnesWrong : ChangeSpec := { name := "fnPivotsOfOnes", fn := fun _ => fun
  | [d] => { results := [.lit (.bool false)], args := [d] }
  | _ => none }
def FnPivotsOfOnesWrongFalsely : Prop := fnPivotsOfOnesRow.holds Try.pinned (OpenSpec.ofChange fnPivotsOfOnesWrong)

/-- 'laws.FnClearIsCore': WHATEVER THE INPUT: true; the input reads as it did. -/
def fnClearIsCoreSpec : ChangeSpec := { name := "fnClearIsCore", fn := fun _ => fun
  | [d] => { results := [.lit (.bool true)], args := [d] }
  | _ => none }
def fnClearIsCoreRow : OpenClaim := { program := "ytccbjgajmjcpjab", sum := "7509e1c7def063366403b2061ed44ec9da1f7ad85e18737c0e115dca99aa7d5e", func := "loop.example/salesbybids/laws.FnClearIsCore", spec := "fnClearIsCore", unfollowed := true, recurses := true, apart := false }
def FnClearIsCoreSaid : Prop := fnClearIsCoreRow.holds Try.pinned (OpenSpec.ofChange fnClearIsCoreSpec)

/-- ITS FALSE NEIGHBOUR: 'it returns false'. Refute it at one input. -/
def fnClearIsCoreWrong : ChangeSpec := { name := "fnClearIsCore", fn := fun _ => fun
  | [d] => { results := [.lit (.bool false)], args := [d] }
  | _ => none }
def FnClearIsCoreWrongFalsely : Prop := fnClearIsCoreRow.holds Try.pinned (OpenSpec.ofChange fnClearIsCoreWrong)

/-- 'laws.FnLoadsAreSmooth': WHATEVER THE INPUT: true; the input reads as it did. -/
def fnLoadsAreSmoothSpec : ChangeSpec := { name := "fnLoadsAreSmooth", fn := fun _ => fun
  | [d] => { results := [.lit (.bool true)], args := [d] }
  | _ => none }
def fnLoadsAreSmoothRow : OpenClaim := { program := "ytccbjgajmjcpjab", sum := "7509e1c7def063366403b2061ed44ec9da1f7ad85e18737c0e115dca99aa7d5e", func := "loop.example/salesbybids/laws.FnLoadsAreSmooth", spec := "fnLoadsAreSmooth", unfollowed := true, recurses := true, apart := false }
def FnLoadsAreSmoothSaid : Prop := fnLoadsAreSmoothRow.holds Try.pinned (OpenSpec.ofChange fnLoadsAreSmoothSpec)

/-- ITS FALSE NEIGHBOUR: 'it returns false'. Refute it at one input. -/
def fnLoadsAreSmoothWrong : ChangeSpec := { name := "fnLoadsAreSmooth", fn := fun _ => fun
  | [d] => { results := [.lit (.bool false)], args := [d] }
  | _ => none }
def FnLoadsAreSmoothWrongFalsely : Prop := fnLoadsAreSmoothRow.holds Try.pinned (OpenSpec.ofChange fnLoadsAreSmoothWrong)

/-- 'laws.FnExactIsModest': WHATEVER THE INPUT: true; the input reads as it did. -/
def fnExactIsModestSpec : ChangeSpec := { name := "fnExactIsModest", fn := fun _ => fun
  | [d] => { results := [.lit (.bool true)], args := [d] }
  | _ => none }
def fnExactIsModestRow : OpenClaim := { program := "ytccbjgajmjcpjab", sum := "7509e1c7def063366403b2061ed44ec9da1f7ad85e18737c0e115dca99aa7d5e", func := "loop.example/salesbybids/laws.FnExactIsModest", spec := "fnExactIsModest", apart := false }
def FnExactIsModestSaid : Prop := fnExactIsModestRow.holds Try.pinned (OpenSpec.ofChange fnExactIsModestSpec)

/-- ITS FALSE NEIGHBOUR: 'it returns false'. Refute it at one input. -/
def fnExactIsModestWrong : ChangeSpec := { name := "fnExactIsModest", fn := fun _ => fun
  | [d] => { results := [.lit (.bool false)], args := [d] }
  | _ => none }
def FnExactIsModestWrongFalsely : Prop := fnExactIsModestRow.holds Try.pinned (OpenSpec.ofChange fnExactIsModestWrong)

/-- 'laws.FnExactClimbPrices': WHATEVER THE INPUT: true; the input reads as it did. -/
def fnExactClimbPricesSpec : ChangeSpec := { name := "fnExactClimbPrices", fn := fun _ => fun
  | [d] => { results := [.lit (.bool true)], args := [d] }
  | _ => none }
def fnExactClimbPricesRow : OpenClaim := { program := "ytccbjgajmjcpjab", sum := "7509e1c7def063366403b2061ed44ec9da1f7ad85e18737c0e115dca99aa7d5e", func := "loop.example/salesbybids/laws.FnExactClimbPrices", spec := "fnExactClimbPrices", unfollowed := true, recurses := true, apart := false }
def FnExactClimbPricesSaid : Prop := fnExactClimbPricesRow.holds Try.pinned (OpenSpec.ofChange fnExactClimbPricesSpec)

/-- ITS FALSE NEIGHBOUR: 'it returns false'. Refute it at one input. -/
def fnExactClimbPricesWrong : ChangeSpec := { name := "fnExactClimbPrices", fn := fun _ => fun
  | [d] => { results := [.lit (.bool false)], args := [d] }
  | _ => none }
def FnExactClimbPricesWrongFalsely : Prop := fnExactClimbPricesRow.holds Try.pinned (OpenSpec.ofChange fnExactClimbPricesWrong)

/-- 'laws.FnExactLeastPrices': WHATEVER THE INPUT: true; the input reads as it did. -/
def fnExactLeastPricesSpec : ChangeSpec := { name := "fnExactLeastPrices", fn := fun _ => fun
  | [d] => { results := [.lit (.bool true)], args := [d] }
  | _ => none }
def fnExactLeastPricesRow : OpenClaim := { program := "ytccbjgajmjcpjab", sum := "7509e1c7def063366403b2061ed44ec9da1f7ad85e18737c0e115dca99aa7d5e", func := "loop.example/salesbybids/laws.FnExactLeastPrices", spec := "fnExactLeastPrices", unfollowed := true, recurses := true, apart := false }
def FnExactLeastPricesSaid : Prop := fnExactLeastPricesRow.holds Try.pinned (OpenSpec.ofChange fnExactLeastPricesSpec)

/-- ITS FALSE NEIGHBOUR: 'it returns false'. Refute it at one input. -/
def fnExactLeastPricesWrong : ChangeSpec := { name := "fnExactLeastPrices", fn := fun _ => fun
  | [d] => { results := [.lit (.bool false)], args := [d] }
  | _ => none }
def FnExactLeastPricesWrongFalsely : Prop := fnExactLeastPricesRow.holds Try.pinned (OpenSpec.ofChange fnExactLeastPricesWrong)

/-- 'laws.FnExactClearPrices': WHATEVER THE INPUT: true; the input reads as it did. -/
def fnExactClearPricesSpec : ChangeSpec := { name := "fnExactClearPrices", fn := fun _ => fun
  | [d1, d2] => { results := [.lit (.bool true)], args := [d1, d2] }
  | _ => none }
def fnExactClearPricesRow : OpenClaim := { program := "ytccbjgajmjcpjab", sum := "7509e1c7def063366403b2061ed44ec9da1f7ad85e18737c0e115dca99aa7d5e", func := "loop.example/salesbybids/laws.FnExactClearPrices", spec := "fnExactClearPrices", unfollowed := true, recurses := true, apart := false }
def FnExactClearPricesSaid : Prop := fnExactClearPricesRow.holds Try.pinned (OpenSpec.ofChange fnExactClearPricesSpec)

/-- ITS FALSE NEIGHBOUR: 'it returns false'. Refute it at one input. -/
def fnExactClearPricesWrong : ChangeSpec := { name := "fnExactClearPrices", fn := fun _ => fun
  | [d1, d2] => { results := [.lit (.bool false)], args := [d1, d2] }
  | _ => none }
def FnExactClearPricesWrongFalsely : Prop := fnExactClearPricesRow.holds Try.pinned (OpenSpec.ofChange fnExactClearPricesWrong)

/-- 'laws.FnExactGoWithPairs': WHATEVER THE INPUT: true; the input reads as it did. -/
def fnExactGoWithPairsSpec : ChangeSpec := { name := "fnExactGoWithPairs", fn := fun _ => fun
  | [d1, d2] => { results := [.lit (.bool true)], args := [d1, d2] }
  | _ => none }
def fnExactGoWithPairsRow : OpenClaim := { program := "ytccbjgajmjcpjab", sum := "7509e1c7def063366403b2061ed44ec9da1f7ad85e18737c0e115dca99aa7d5e", func := "loop.example/salesbybids/laws.FnExactGoWithPairs", spec := "fnExactGoWithPairs", unfollowed := true, recurses := true, apart := false }
def FnExactGoWithPairsSaid : Prop := fnExactGoWithPairsRow.holds Try.pinned (OpenSpec.ofChange fnExactGoWithPairsSpec)

/-- ITS FALSE NEIGHBOUR: 'it returns false'. Refute it at one input. -/
def fnExactGoWithPairsWrong : ChangeSpec := { name := "fnExactGoWithPairs", fn := fun _ => fun
  | [d1, d2] => { results := [.lit (.bool false)], args := [d1, d2] }
  | _ => none }
def FnExactGoWithPairsWrongFalsely : Prop := fnExactGoWithPairsRow.holds Try.pinned (OpenSpec.ofChange fnExactGoWithPairsWrong)

/-- 'laws.FnExactWorthWith': WHATEVER THE INPUT: true; the input reads as it did. -/
def fnExactWorthWithSpec : ChangeSpec := { name := "fnExactWorthWith", fn := fun _ => fun
  | [d1, d2] => { results := [.lit (.bool true)], args := [d1, d2] }
  | _ => none }
def fnExactWorthWithRow : OpenClaim := { program := "ytccbjgajmjcpjab", sum := "7509e1c7def063366403b2061ed44ec9da1f7ad85e18737c0e115dca99aa7d5e", func := "loop.example/salesbybids/laws.FnExactWorthWith", spec := "fnExactWorthWith", unfollowed := true, recurses := true, apart := false }
def FnExactWorthWithSaid : Prop := fnExactWorthWithRow.holds Try.pinned (OpenSpec.ofChange fnExactWorthWithSpec)

/-- ITS FALSE NEIGHBOUR: 'it returns false'. Refute it at one input. -/
def fnExactWorthWithWrong : ChangeSpec := { name := "fnExactWorthWith", fn := fun _ => fun
  | [d1, d2] => { results := [.lit (.bool false)], args := [d1, d2] }
  | _ => none }
def FnExactWorthWithWrongFalsely : Prop := fnExactWorthWithRow.holds Try.pinned (OpenSpec.ofChange fnExactWorthWithWrong)

/-- 'laws.FnExactInCore': WHATEVER THE INPUT: true; the input reads as it did. -/
def fnExactInCoreSpec : ChangeSpec := { name := "fnExactInCore", fn := fun _ => fun
  | [d1, d2] => { results := [.lit (.bool true)], args := [d1, d2] }
  | _ => none }
def fnExactInCoreRow : OpenClaim := { program := "ytccbjgajmjcpjab", sum := "7509e1c7def063366403b2061ed44ec9da1f7ad85e18737c0e115dca99aa7d5e", func := "loop.example/salesbybids/laws.FnExactInCore", spec := "fnExactInCore", unfollowed := true, recurses := true, apart := false }
def FnExactInCoreSaid : Prop := fnExactInCoreRow.holds Try.pinned (OpenSpec.ofChange fnExactInCoreSpec)

/-- ITS FALSE NEIGHBOUR: 'it returns false'. Refute it at one input. -/
def fnExactInCoreWrong : ChangeSpec := { name := "fnExactInCore", fn := fun _ => fun
  | [d1, d2] => { results := [.lit (.bool false)], args := [d1, d2] }
  | _ => none }
def FnExactInCoreWrongFalsely : Prop := fnExactInCoreRow.holds Try.pinned (OpenSpec.ofChange fnExactInCoreWrong)

/-- 'laws.FnExactLeastCore': WHATEVER THE INPUT: true; the input reads as it did. -/
def fnExactLeastCoreSpec : ChangeSpec := { name := "fnExactLeastCore", fn := fun _ => fun
  | [d] => { results := [.lit (.bool true)], args := [d] }
  | _ => none }
def fnExactLeastCoreRow : OpenClaim := { program := "ytccbjgajmjcpjab", sum := "7509e1c7def063366403b2061ed44ec9da1f7ad85e18737c0e115dca99aa7d5e", func := "loop.example/salesbybids/laws.FnExactLeastCore", spec := "fnExactLeastCore", unfollowed := true, recurses := true, apart := false }
def FnExactLeastCoreSaid : Prop := fnExactLeastCoreRow.holds Try.pinned (OpenSpec.ofChange fnExactLeastCoreSpec)

/-- ITS FALSE NEIGHBOUR: 'it returns false'. Refute it at one input. -/
def fnExactLeastCoreWrong : ChangeSpec := { name := "fnExactLeastCore", fn := fun _ => fun
  | [d] => { results := [.lit (.bool false)], args := [d] }
  | _ => none }
def FnExactLeastCoreWrongFalsely : Prop := fnExactLeastCoreRow.holds Try.pinned (OpenSpec.ofChange fnExactLeastCoreWrong)

/-- 'laws.FnExactIsNested': WHATEVER THE INPUT: true; the input reads as it did. -/
def fnExactIsNestedSpec : ChangeSpec := { name := "fnExactIsNested", fn := fun _ => fun
  | [d] => { results := [.lit (.bool true)], args := [d] }
  | _ => none }
def fnExactIsNestedRow : OpenClaim := { program := "ytccbjgajmjcpjab", sum := "7509e1c7def063366403b2061ed44ec9da1f7ad85e18737c0e115dca99aa7d5e", func := "loop.example/salesbybids/laws.FnExactIsNested", spec := "fnExactIsNested", unfollowed := true, recurses := true, apart := false }
def FnExactIsNestedSaid : Prop := fnExactIsNestedRow.holds Try.pinned (OpenSpec.ofChange fnExactIsNestedSpec)

/-- ITS FALSE NEIGHBOUR: 'it returns false'. Refute it at one input. -/
def fnExactIsNestedWrong : ChangeSpec := { name := "fnExactIsNested", fn := fun _ => fun
  | [d] => { results := [.lit (.bool false)], args := [d] }
  | _ => none }
def FnExactIsNestedWrongFalsely : Prop := fnExactIsNestedRow.holds Try.pinned (OpenSpec.ofChange fnExactIsNestedWrong)

/- THE SECOND FORM. 'bulk': how many values and letters a reading holds, each counted each time it is reached (what is shared counts as often as it is met; a slice's spare places count too). A statement '..UptoSaid' is the law's where the arguments, and the package variables that the reading takes, are together of bulk at most 1048576: NARROWER than '..Said'. Prove '..Said' where nothing that the law and all that it calls make is longer than what came in: it says more and counts as full. Else prove '..UptoSaid'. A law counts once. -/
mutual
def uptoBulk {H : Type} : DataW H → Nat
  | .lit (.string bytes) => bytes.length + 1
  | .lit _ => 1
  | .nil => 1
  | .ptr d => uptoBulk d + 1
  | .slice elems spare => uptoBulkAll elems + uptoBulkAll spare + 1
  | .agg parts => uptoBulkAll parts + 1
  | .iface _ d => uptoBulk d + 1
  | .map entries => uptoBulkEntries entries + 1
  | .held _ => 1
def uptoBulkAll {H : Type} : List (DataW H) → Nat
  | [] => 0
  | d :: r => uptoBulk d + uptoBulkAll r
def uptoBulkEntries {H : Type} : List (Lit × DataW H) → Nat
  | [] => 0
  | x :: r => uptoBulkEntry x + uptoBulkEntries r
def uptoBulkEntry {H : Type} : Lit × DataW H → Nat
  | (.string bytes, d) => bytes.length + uptoBulk d + 1
  | (_, d) => uptoBulk d + 1
 end
def uptoSmall : (H : Type) → List (DataW H) → Bool := fun _ ds => decide (uptoBulkAll ds ≤ 1048576)
def OpenSpec.upto (s : _root_.Go.ChangeSpec) : _root_.Go.OpenSpec := { _root_.Go.OpenSpec.ofChange s with cond := some uptoSmall }

/-- 'laws.FnPivotsOfOnes', WHERE WHAT IT READS IS OF BULK AT MOST 1048576: true; the input reads as it did. -/
def fnPivotsOfOnesUptoRow : OpenClaim := { program := "ytccbjgajmjcpjab", sum := "7509e1c7def063366403b2061ed44ec9da1f7ad85e18737c0e115dca99aa7d5e", func := "loop.example/salesbybids/laws.FnPivotsOfOnes", spec := "fnPivotsOfOnes", unfollowed := true, recurses := true, apart := false, narrowed := true }
def FnPivotsOfOnesUptoSaid : Prop := fnPivotsOfOnesUptoRow.holds Try.pinned (OpenSpec.upto fnPivotsOfOnesSpec)

/-- 'laws.FnClearIsCore', WHERE WHAT IT READS IS OF BULK AT MOST 1048576: true; the input reads as it did. -/
def fnClearIsCoreUptoRow : OpenClaim := { program := "ytccbjgajmjcpjab", sum := "7509e1c7def063366403b2061ed44ec9da1f7ad85e18737c0e115dca99aa7d5e", func := "loop.example/salesbybids/laws.FnClearIsCore", spec := "fnClearIsCore", unfollowed := true, recurses := true, apart := false, narrowed := true }
def FnClearIsCoreUptoSaid : Prop := fnClearIsCoreUptoRow.holds Try.pinned (OpenSpec.upto fnClearIsCoreSpec)

/-- 'laws.FnLoadsAreSmooth', WHERE WHAT IT READS IS OF BULK AT MOST 1048576: true; the input reads as it did. -/
def fnLoadsAreSmoothUptoRow : OpenClaim := { program := "ytccbjgajmjcpjab", sum := "7509e1c7def063366403b2061ed44ec9da1f7ad85e18737c0e115dca99aa7d5e", func := "loop.example/salesbybids/laws.FnLoadsAreSmooth", spec := "fnLoadsAreSmooth", unfollowed := true, recurses := true, apart := false, narrowed := true }
def FnLoadsAreSmoothUptoSaid : Prop := fnLoadsAreSmoothUptoRow.holds Try.pinned (OpenSpec.upto fnLoadsAreSmoothSpec)

/-- 'laws.FnExactIsModest', WHERE WHAT IT READS IS OF BULK AT MOST 1048576: true; the input reads as it did. -/
def fnExactIsModestUptoRow : OpenClaim := { program := "ytccbjgajmjcpjab", sum := "7509e1c7def063366403b2061ed44ec9da1f7ad85e18737c0e115dca99aa7d5e", func := "loop.example/salesbybids/laws.FnExactIsModest", spec := "fnExactIsModest", apart := false, narrowed := true }
def FnExactIsModestUptoSaid : Prop := fnExactIsModestUptoRow.holds Try.pinned (OpenSpec.upto fnExactIsModestSpec)

/-- 'laws.FnExactClimbPrices', WHERE WHAT IT READS IS OF BULK AT MOST 1048576: true; the input reads as it did. -/
def fnExactClimbPricesUptoRow : OpenClaim := { program := "ytccbjgajmjcpjab", sum := "7509e1c7def063366403b2061ed44ec9da1f7ad85e18737c0e115dca99aa7d5e", func := "loop.example/salesbybids/laws.FnExactClimbPrices", spec := "fnExactClimbPrices", unfollowed := true, recurses := true, apart := false, narrowed := true }
def FnExactClimbPricesUptoSaid : Prop := fnExactClimbPricesUptoRow.holds Try.pinned (OpenSpec.upto fnExactClimbPricesSpec)

/-- 'laws.FnExactLeastPrices', WHERE WHAT IT READS IS OF BULK AT MOST 1048576: true; the input reads as it did. -/
def fnExactLeastPricesUptoRow : OpenClaim := { program := "ytccbjgajmjcpjab", sum := "7509e1c7def063366403b2061ed44ec9da1f7ad85e18737c0e115dca99aa7d5e", func := "loop.example/salesbybids/laws.FnExactLeastPrices", spec := "fnExactLeastPrices", unfollowed := true, recurses := true, apart := false, narrowed := true }
def FnExactLeastPricesUptoSaid : Prop := fnExactLeastPricesUptoRow.holds Try.pinned (OpenSpec.upto fnExactLeastPricesSpec)

/-- 'laws.FnExactClearPrices', WHERE WHAT IT READS IS OF BULK AT MOST 1048576: true; the input reads as it did. -/
def fnExactClearPricesUptoRow : OpenClaim := { program := "ytccbjgajmjcpjab", sum := "7509e1c7def063366403b2061ed44ec9da1f7ad85e18737c0e115dca99aa7d5e", func := "loop.example/salesbybids/laws.FnExactClearPrices", spec := "fnExactClearPrices", unfollowed := true, recurses := true, apart := false, narrowed := true }
def FnExactClearPricesUptoSaid : Prop := fnExactClearPricesUptoRow.holds Try.pinned (OpenSpec.upto fnExactClearPricesSpec)

/-- 'laws.FnExactGoWithPairs', WHERE WHAT IT READS IS OF BULK AT MOST 1048576: true; the input reads as it did. -/
def fnExactGoWithPairsUptoRow : OpenClaim := { program := "ytccbjgajmjcpjab", sum := "7509e1c7def063366403b2061ed44ec9da1f7ad85e18737c0e115dca99aa7d5e", func := "loop.example/salesbybids/laws.FnExactGoWithPairs", spec := "fnExactGoWithPairs", unfollowed := true, recurses := true, apart := false, narrowed := true }
def FnExactGoWithPairsUptoSaid : Prop := fnExactGoWithPairsUptoRow.holds Try.pinned (OpenSpec.upto fnExactGoWithPairsSpec)

/-- 'laws.FnExactWorthWith', WHERE WHAT IT READS IS OF BULK AT MOST 1048576: true; the input reads as it did. -/
def fnExactWorthWithUptoRow : OpenClaim := { program := "ytccbjgajmjcpjab", sum := "7509e1c7def063366403b2061ed44ec9da1f7ad85e18737c0e115dca99aa7d5e", func := "loop.example/salesbybids/laws.FnExactWorthWith", spec := "fnExactWorthWith", unfollowed := true, recurses := true, apart := false, narrowed := true }
def FnExactWorthWithUptoSaid : Prop := fnExactWorthWithUptoRow.holds Try.pinned (OpenSpec.upto fnExactWorthWithSpec)

/-- 'laws.FnExactInCore', WHERE WHAT IT READS IS OF BULK AT MOST 1048576: true; the input reads as it did. -/
def fnExactInCoreUptoRow : OpenClaim := { program := "ytccbjgajmjcpjab", sum := "7509e1c7def063366403b2061ed44ec9da1f7ad85e18737c0e115dca99aa7d5e", func := "loop.example/salesbybids/laws.FnExactInCore", spec := "fnExactInCore", unfollowed := true, recurses := true, apart := false, narrowed := true }
def FnExactInCoreUptoSaid : Prop := fnExactInCoreUptoRow.holds Try.pinned (OpenSpec.upto fnExactInCoreSpec)

/-- 'laws.FnExactLeastCore', WHERE WHAT IT READS IS OF BULK AT MOST 1048576: true; the input reads as it did. -/
def fnExactLeastCoreUptoRow : OpenClaim := { program := "ytccbjgajmjcpjab", sum := "7509e1c7def063366403b2061ed44ec9da1f7ad85e18737c0e115dca99aa7d5e", func := "loop.example/salesbybids/laws.FnExactLeastCore", spec := "fnExactLeastCore", unfollowed := true, recurses := true, apart := false, narrowed := true }
def FnExactLeastCoreUptoSaid : Prop := fnExactLeastCoreUptoRow.holds Try.pinned (OpenSpec.upto fnExactLeastCoreSpec)

/-- 'laws.FnExactIsNested', WHERE WHAT IT READS IS OF BULK AT MOST 1048576: true; the input reads as it did. -/
def fnExactIsNestedUptoRow : OpenClaim := { program := "ytccbjgajmjcpjab", sum := "7509e1c7def063366403b2061ed44ec9da1f7ad85e18737c0e115dca99aa7d5e", func := "loop.example/salesbybids/laws.FnExactIsNested", spec := "fnExactIsNested", unfollowed := true, recurses := true, apart := false, narrowed := true }
def FnExactIsNestedUptoSaid : Prop := fnExactIsNestedUptoRow.holds Try.pinned (OpenSpec.upto fnExactIsNestedSpec)

end Rows
end Go.Proofs.Ytccbjgajmjcpjab
