/-
  No cell of these rows narrows 'for every input' (looked for: loops, veiled, ifaces, maps, wideKeys, modest, calm, conditions, laid).
  DERIVED. THE GIVEN ROWS OF THIS SEAT. 12 by the template 'for every input the law returns true; each argument reads behind the call as it read before'; 0 by the template 'total and deterministic' (their statements: YtfjncipekjnbjabTotals.lean).
  GIVEN WITH THE SEED: the statements are not yours to turn. If you find one false, say at which input.
  Laid BY PROGRAM, IN A SANDBOX (cutbox-rows.mjs): the forced cells as the released guide's own fill.sh prints them over the translation 012b15cd3ed52fbd… (all of the seat's roots in one cut). By AI agents, Wed Nov 11 2026. No macro, syntax, notation, axiom, sorry.
-/
import Derived.Test.YtfjncipekjnbjabChecked
import GoSem.Claim
import GoSem.ClaimJoined
import GoSem.ClaimMapViews
import Derived.JoinedTies
import Derived.KernelRfl
namespace Go.Proofs.Ytfjncipekjnbjab
/- THE CELL 'sum', in the pinned program and in every row, IS THE sha256 OF THE DUMP (.gsa) THAT YtfjncipekjnbjabProg.lean LOADS. Nothing in Lean hashes anything: it is a label: what it is worth is what the hold of that sum in a sandbox is worth. -/
noncomputable def Try.pinned : Pinned := { name := "ytfjncipekjnbjab", sum := "012b15cd3ed52fbd4ce679f042458161b3a457077b207cda2dfb9c00f577be26", checked := Try.checked }
namespace Rows
def none {H : Type} : Left H := { results := [], args := [] }

/-- 'laws.FnClearPrices': WHATEVER THE INPUT: true; the input reads as it did. -/
def fnClearPricesSpec : ChangeSpec := { name := "fnClearPrices", fn := fun _ => fun
  | [d] => { results := [.lit (.bool true)], args := [d] }
  | _ => none }
def fnClearPricesRow : OpenClaim := { program := "ytfjncipekjnbjab", sum := "012b15cd3ed52fbd4ce679f042458161b3a457077b207cda2dfb9c00f577be26", func := "loop.example/salesbybids/laws.FnClearPrices", spec := "fnClearPrices", unfollowed := true, recurses := true, apart := false }
def FnClearPricesSaid : Prop := fnClearPricesRow.holds Try.pinned (OpenSpec.ofChange fnClearPricesSpec)

/-- ITS FALSE NEIGHBOUR: 'it returns false'. Refute it at one input. -/
def fnClearPricesWrong : ChangeSpec := { name := "fnClearPrices", fn := fun _ => fun
  | [d] => { results := [.lit (.bool false)], args := [d] }
  | _ => none }
def FnClearPricesWrongFalsely : Prop := fnClearPricesRow.holds Try.pinned (OpenSpec.ofChange fnClearPricesWrong)

/-- 'laws.FnUnitsAreBundles': WHATEVER THE INPUT: true; the input reads as it did. -/
def fnUnitsAreBundlesSpec : ChangeSpec := { name := "fnUnitsAreBundles", fn := fun _ => fun
  | [d] => { results := [.lit (.bool true)], args := [d] }
  | _ => none }
def fnUnitsAreBundlesRow : OpenClaim := { program := "ytfjncipekjnbjab", sum := "012b15cd3ed52fbd4ce679f042458161b3a457077b207cda2dfb9c00f577be26", func := "loop.example/salesbybids/laws.FnUnitsAreBundles", spec := "fnUnitsAreBundles", unfollowed := true, recurses := true, apart := false }
def FnUnitsAreBundlesSaid : Prop := fnUnitsAreBundlesRow.holds Try.pinned (OpenSpec.ofChange fnUnitsAreBundlesSpec)

/-- ITS FALSE NEIGHBOUR: 'it returns false'. Refute it at one input. -/
def fnUnitsAreBundlesWrong : ChangeSpec := { name := "fnUnitsAreBundles", fn := fun _ => fun
  | [d] => { results := [.lit (.bool false)], args := [d] }
  | _ => none }
def FnUnitsAreBundlesWrongFalsely : Prop := fnUnitsAreBundlesRow.holds Try.pinned (OpenSpec.ofChange fnUnitsAreBundlesWrong)

/-- 'laws.FnMoreBidsPayMore': WHATEVER THE INPUT: true; the input reads as it did. -/
def fnMoreBidsPayMoreSpec : ChangeSpec := { name := "fnMoreBidsPayMore", fn := fun _ => fun
  | [d] => { results := [.lit (.bool true)], args := [d] }
  | _ => none }
def fnMoreBidsPayMoreRow : OpenClaim := { program := "ytfjncipekjnbjab", sum := "012b15cd3ed52fbd4ce679f042458161b3a457077b207cda2dfb9c00f577be26", func := "loop.example/salesbybids/laws.FnMoreBidsPayMore", spec := "fnMoreBidsPayMore", unfollowed := true, recurses := true, apart := false }
def FnMoreBidsPayMoreSaid : Prop := fnMoreBidsPayMoreRow.holds Try.pinned (OpenSpec.ofChange fnMoreBidsPayMoreSpec)

/-- ITS FALSE NEIGHBOUR: 'it returns false'. Refute it at one input. -/
def fnMoreBidsPayMoreWrong : ChangeSpec := { name := "fnMoreBidsPayMore", fn := fun _ => fun
  | [d] => { results := [.lit (.bool false)], args := [d] }
  | _ => none }
def FnMoreBidsPayMoreWrongFalsely : Prop := fnMoreBidsPayMoreRow.holds Try.pinned (OpenSpec.ofChange fnMoreBidsPayMoreWrong)

/-- 'laws.FnLoadsAreSmooth': WHATEVER THE INPUT: true; the input reads as it did. -/
def fnLoadsAreSmoothSpec : ChangeSpec := { name := "fnLoadsAreSmooth", fn := fun _ => fun
  | [d] => { results := [.lit (.bool true)], args := [d] }
  | _ => none }
def fnLoadsAreSmoothRow : OpenClaim := { program := "ytfjncipekjnbjab", sum := "012b15cd3ed52fbd4ce679f042458161b3a457077b207cda2dfb9c00f577be26", func := "loop.example/salesbybids/laws.FnLoadsAreSmooth", spec := "fnLoadsAreSmooth", unfollowed := true, recurses := true, apart := false }
def FnLoadsAreSmoothSaid : Prop := fnLoadsAreSmoothRow.holds Try.pinned (OpenSpec.ofChange fnLoadsAreSmoothSpec)

/-- ITS FALSE NEIGHBOUR: 'it returns false'. Refute it at one input. -/
def fnLoadsAreSmoothWrong : ChangeSpec := { name := "fnLoadsAreSmooth", fn := fun _ => fun
  | [d] => { results := [.lit (.bool false)], args := [d] }
  | _ => none }
def FnLoadsAreSmoothWrongFalsely : Prop := fnLoadsAreSmoothRow.holds Try.pinned (OpenSpec.ofChange fnLoadsAreSmoothWrong)

/-- 'laws.FnExactSurplusAt': WHATEVER THE INPUT: true; the input reads as it did. -/
def fnExactSurplusAtSpec : ChangeSpec := { name := "fnExactSurplusAt", fn := fun _ => fun
  | [d1, d2] => { results := [.lit (.bool true)], args := [d1, d2] }
  | _ => none }
def fnExactSurplusAtRow : OpenClaim := { program := "ytfjncipekjnbjab", sum := "012b15cd3ed52fbd4ce679f042458161b3a457077b207cda2dfb9c00f577be26", func := "loop.example/salesbybids/laws.FnExactSurplusAt", spec := "fnExactSurplusAt", unfollowed := true, recurses := true, apart := false }
def FnExactSurplusAtSaid : Prop := fnExactSurplusAtRow.holds Try.pinned (OpenSpec.ofChange fnExactSurplusAtSpec)

/-- ITS FALSE NEIGHBOUR: 'it returns false'. Refute it at one input. -/
def fnExactSurplusAtWrong : ChangeSpec := { name := "fnExactSurplusAt", fn := fun _ => fun
  | [d1, d2] => { results := [.lit (.bool false)], args := [d1, d2] }
  | _ => none }
def FnExactSurplusAtWrongFalsely : Prop := fnExactSurplusAtRow.holds Try.pinned (OpenSpec.ofChange fnExactSurplusAtWrong)

/-- 'laws.FnExactKeepsDemand': WHATEVER THE INPUT: true; the input reads as it did. -/
def fnExactKeepsDemandSpec : ChangeSpec := { name := "fnExactKeepsDemand", fn := fun _ => fun
  | [d1, d2, d3] => { results := [.lit (.bool true)], args := [d1, d2, d3] }
  | _ => none }
def fnExactKeepsDemandRow : OpenClaim := { program := "ytfjncipekjnbjab", sum := "012b15cd3ed52fbd4ce679f042458161b3a457077b207cda2dfb9c00f577be26", func := "loop.example/salesbybids/laws.FnExactKeepsDemand", spec := "fnExactKeepsDemand", unfollowed := true, recurses := true, apart := false }
def FnExactKeepsDemandSaid : Prop := fnExactKeepsDemandRow.holds Try.pinned (OpenSpec.ofChange fnExactKeepsDemandSpec)

/-- ITS FALSE NEIGHBOUR: 'it returns false'. Refute it at one input. -/
def fnExactKeepsDemandWrong : ChangeSpec := { name := "fnExactKeepsDemand", fn := fun _ => fun
  | [d1, d2, d3] => { results := [.lit (.bool false)], args := [d1, d2, d3] }
  | _ => none }
def FnExactKeepsDemandWrongFalsely : Prop := fnExactKeepsDemandRow.holds Try.pinned (OpenSpec.ofChange fnExactKeepsDemandWrong)

/-- 'laws.FnExactIsClear': WHATEVER THE INPUT: true; the input reads as it did. -/
def fnExactIsClearSpec : ChangeSpec := { name := "fnExactIsClear", fn := fun _ => fun
  | [d1, d2] => { results := [.lit (.bool true)], args := [d1, d2] }
  | _ => none }
def fnExactIsClearRow : OpenClaim := { program := "ytfjncipekjnbjab", sum := "012b15cd3ed52fbd4ce679f042458161b3a457077b207cda2dfb9c00f577be26", func := "loop.example/salesbybids/laws.FnExactIsClear", spec := "fnExactIsClear", unfollowed := true, recurses := true, apart := false }
def FnExactIsClearSaid : Prop := fnExactIsClearRow.holds Try.pinned (OpenSpec.ofChange fnExactIsClearSpec)

/-- ITS FALSE NEIGHBOUR: 'it returns false'. Refute it at one input. -/
def fnExactIsClearWrong : ChangeSpec := { name := "fnExactIsClear", fn := fun _ => fun
  | [d1, d2] => { results := [.lit (.bool false)], args := [d1, d2] }
  | _ => none }
def FnExactIsClearWrongFalsely : Prop := fnExactIsClearRow.holds Try.pinned (OpenSpec.ofChange fnExactIsClearWrong)

/-- 'laws.FnExactLoadAt': WHATEVER THE INPUT: true; the input reads as it did. -/
def fnExactLoadAtSpec : ChangeSpec := { name := "fnExactLoadAt", fn := fun _ => fun
  | [d1, d2] => { results := [.lit (.bool true)], args := [d1, d2] }
  | _ => none }
def fnExactLoadAtRow : OpenClaim := { program := "ytfjncipekjnbjab", sum := "012b15cd3ed52fbd4ce679f042458161b3a457077b207cda2dfb9c00f577be26", func := "loop.example/salesbybids/laws.FnExactLoadAt", spec := "fnExactLoadAt", unfollowed := true, recurses := true, apart := false }
def FnExactLoadAtSaid : Prop := fnExactLoadAtRow.holds Try.pinned (OpenSpec.ofChange fnExactLoadAtSpec)

/-- ITS FALSE NEIGHBOUR: 'it returns false'. Refute it at one input. -/
def fnExactLoadAtWrong : ChangeSpec := { name := "fnExactLoadAt", fn := fun _ => fun
  | [d1, d2] => { results := [.lit (.bool false)], args := [d1, d2] }
  | _ => none }
def FnExactLoadAtWrongFalsely : Prop := fnExactLoadAtRow.holds Try.pinned (OpenSpec.ofChange fnExactLoadAtWrong)

/-- 'laws.FnExactClimbPrices': WHATEVER THE INPUT: true; the input reads as it did. -/
def fnExactClimbPricesSpec : ChangeSpec := { name := "fnExactClimbPrices", fn := fun _ => fun
  | [d] => { results := [.lit (.bool true)], args := [d] }
  | _ => none }
def fnExactClimbPricesRow : OpenClaim := { program := "ytfjncipekjnbjab", sum := "012b15cd3ed52fbd4ce679f042458161b3a457077b207cda2dfb9c00f577be26", func := "loop.example/salesbybids/laws.FnExactClimbPrices", spec := "fnExactClimbPrices", unfollowed := true, recurses := true, apart := false }
def FnExactClimbPricesSaid : Prop := fnExactClimbPricesRow.holds Try.pinned (OpenSpec.ofChange fnExactClimbPricesSpec)

/-- ITS FALSE NEIGHBOUR: 'it returns false'. Refute it at one input. -/
def fnExactClimbPricesWrong : ChangeSpec := { name := "fnExactClimbPrices", fn := fun _ => fun
  | [d] => { results := [.lit (.bool false)], args := [d] }
  | _ => none }
def FnExactClimbPricesWrongFalsely : Prop := fnExactClimbPricesRow.holds Try.pinned (OpenSpec.ofChange fnExactClimbPricesWrong)

/-- 'laws.FnExactLeastPrices': WHATEVER THE INPUT: true; the input reads as it did. -/
def fnExactLeastPricesSpec : ChangeSpec := { name := "fnExactLeastPrices", fn := fun _ => fun
  | [d] => { results := [.lit (.bool true)], args := [d] }
  | _ => none }
def fnExactLeastPricesRow : OpenClaim := { program := "ytfjncipekjnbjab", sum := "012b15cd3ed52fbd4ce679f042458161b3a457077b207cda2dfb9c00f577be26", func := "loop.example/salesbybids/laws.FnExactLeastPrices", spec := "fnExactLeastPrices", unfollowed := true, recurses := true, apart := false }
def FnExactLeastPricesSaid : Prop := fnExactLeastPricesRow.holds Try.pinned (OpenSpec.ofChange fnExactLeastPricesSpec)

/-- ITS FALSE NEIGHBOUR: 'it returns false'. Refute it at one input. -/
def fnExactLeastPricesWrong : ChangeSpec := { name := "fnExactLeastPrices", fn := fun _ => fun
  | [d] => { results := [.lit (.bool false)], args := [d] }
  | _ => none }
def FnExactLeastPricesWrongFalsely : Prop := fnExactLeastPricesRow.holds Try.pinned (OpenSpec.ofChange fnExactLeastPricesWrong)

/-- 'laws.FnExactMostPrices': WHATEVER THE INPUT: true; the input reads as it did. -/
def fnExactMostPricesSpec : ChangeSpec := { name := "fnExactMostPrices", fn := fun _ => fun
  | [d] => { results := [.lit (.bool true)], args := [d] }
  | _ => none }
def fnExactMostPricesRow : OpenClaim := { program := "ytfjncipekjnbjab", sum := "012b15cd3ed52fbd4ce679f042458161b3a457077b207cda2dfb9c00f577be26", func := "loop.example/salesbybids/laws.FnExactMostPrices", spec := "fnExactMostPrices", unfollowed := true, recurses := true, apart := false }
def FnExactMostPricesSaid : Prop := fnExactMostPricesRow.holds Try.pinned (OpenSpec.ofChange fnExactMostPricesSpec)

/-- ITS FALSE NEIGHBOUR: 'it returns false'. Refute it at one input. -/
def fnExactMostPricesWrong : ChangeSpec := { name := "fnExactMostPrices", fn := fun _ => fun
  | [d] => { results := [.lit (.bool false)], args := [d] }
  | _ => none }
def FnExactMostPricesWrongFalsely : Prop := fnExactMostPricesRow.holds Try.pinned (OpenSpec.ofChange fnExactMostPricesWrong)

/-- 'laws.FnExactClearPrices': WHATEVER THE INPUT: true; the input reads as it did. -/
def fnExactClearPricesSpec : ChangeSpec := { name := "fnExactClearPrices", fn := fun _ => fun
  | [d1, d2] => { results := [.lit (.bool true)], args := [d1, d2] }
  | _ => none }
def fnExactClearPricesRow : OpenClaim := { program := "ytfjncipekjnbjab", sum := "012b15cd3ed52fbd4ce679f042458161b3a457077b207cda2dfb9c00f577be26", func := "loop.example/salesbybids/laws.FnExactClearPrices", spec := "fnExactClearPrices", unfollowed := true, recurses := true, apart := false }
def FnExactClearPricesSaid : Prop := fnExactClearPricesRow.holds Try.pinned (OpenSpec.ofChange fnExactClearPricesSpec)

/-- ITS FALSE NEIGHBOUR: 'it returns false'. Refute it at one input. -/
def fnExactClearPricesWrong : ChangeSpec := { name := "fnExactClearPrices", fn := fun _ => fun
  | [d1, d2] => { results := [.lit (.bool false)], args := [d1, d2] }
  | _ => none }
def FnExactClearPricesWrongFalsely : Prop := fnExactClearPricesRow.holds Try.pinned (OpenSpec.ofChange fnExactClearPricesWrong)

/- THE SECOND FORM. 'bulk': how many values and letters a reading holds, each counted each time it is reached (what is shared counts as often as it is met; a slice's spare places count too). A statement '..UptoSaid' is the law's where the arguments, and the package variables that the reading takes, are together of bulk at most 1048576: NARROWER than '..Said'. Prove '..Said' where nothing that the law and all that it calls make is longer than what came in: it says more and counts as full. Else prove '..UptoSaid'. A law counts once. -/
mutual
def uptoBulk {H : Type} : DataW H → Nat
  | .lit (.string bytes) => bytes.length + 1
  | .lit _ => 1
  | .nil => 1
  | .ptr d => uptoBulk d + 1
  | .slice elems spare => uptoBulkAll elems + uptoBulkAll spare + 1
  | .agg parts => uptoBulkAll parts + 1
  | .iface _ d => uptoBulk d + 1
  | .map entries => uptoBulkEntries entries + 1
  | .held _ => 1
def uptoBulkAll {H : Type} : List (DataW H) → Nat
  | [] => 0
  | d :: r => uptoBulk d + uptoBulkAll r
def uptoBulkEntries {H : Type} : List (Lit × DataW H) → Nat
  | [] => 0
  | x :: r => uptoBulkEntry x + uptoBulkEntries r
def uptoBulkEntry {H : Type} : Lit × DataW H → Nat
  | (.string bytes, d) => bytes.length + uptoBulk d + 1
  | (_, d) => uptoBulk d + 1
 end
def uptoSmall : (H : Type) → List (DataW H) → Bool := fun _ ds => decide (uptoBulkAll ds ≤ 1048576)
def OpenSpec.upto (s : _root_.Go.ChangeSpec) : _root_.Go.OpenSpec := { _root_.Go.OpenSpec.ofChange s with cond := some uptoSmall }

/-- 'laws.FnClearPrices', WHERE WHAT IT READS IS OF BULK AT MOST 1048576: true; the input reads as it did. -/
def fnClearPricesUptoRow : OpenClaim := { program := "ytfjncipekjnbjab", sum := "012b15cd3ed52fbd4ce679f042458161b3a457077b207cda2dfb9c00f577be26", func := "loop.example/salesbybids/laws.FnClearPrices", spec := "fnClearPrices", unfollowed := true, recurses := true, apart := false, narrowed := true }
def FnClearPricesUptoSaid : Prop := fnClearPricesUptoRow.holds Try.pinned (OpenSpec.upto fnClearPricesSpec)

/-- 'laws.FnUnitsAreBundles', WHERE WHAT IT READS IS OF BULK AT MOST 1048576: true; the input reads as it did. -/
def fnUnitsAreBundlesUptoRow : OpenClaim := { program := "ytfjncipekjnbjab", sum := "012b15cd3ed52fbd4ce679f042458161b3a457077b207cda2dfb9c00f577be26", func := "loop.example/salesbybids/laws.FnUnitsAreBundles", spec := "fnUnitsAreBundles", unfollowed := true, recurses := true, apart := false, narrowed := true }
def FnUnitsAreBundlesUptoSaid : Prop := fnUnitsAreBundlesUptoRow.holds Try.pinned (OpenSpec.upto fnUnitsAreBundlesSpec)

/-- 'laws.FnMoreBidsPayMore', WHERE WHAT IT READS IS OF BULK AT MOST 1048576: true; the input reads as it did. -/
def fnMoreBidsPayMoreUptoRow : OpenClaim := { program := "ytfjncipekjnbjab", sum := "012b15cd3ed52fbd4ce679f042458161b3a457077b207cda2dfb9c00f577be26", func := "loop.example/salesbybids/laws.FnMoreBidsPayMore", spec := "fnMoreBidsPayMore", unfollowed := true, recurses := true, apart := false, narrowed := true }
def FnMoreBidsPayMoreUptoSaid : Prop := fnMoreBidsPayMoreUptoRow.holds Try.pinned (OpenSpec.upto fnMoreBidsPayMoreSpec)

/-- 'laws.FnLoadsAreSmooth', WHERE WHAT IT READS IS OF BULK AT MOST 1048576: true; the input reads as it did. -/
def fnLoadsAreSmoothUptoRow : OpenClaim := { program := "ytfjncipekjnbjab", sum := "012b15cd3ed52fbd4ce679f042458161b3a457077b207cda2dfb9c00f577be26", func := "loop.example/salesbybids/laws.FnLoadsAreSmooth", spec := "fnLoadsAreSmooth", unfollowed := true, recurses := true, apart := false, narrowed := true }
def FnLoadsAreSmoothUptoSaid : Prop := fnLoadsAreSmoothUptoRow.holds Try.pinned (OpenSpec.upto fnLoadsAreSmoothSpec)

/-- 'laws.FnExactSurplusAt', WHERE WHAT IT READS IS OF BULK AT MOST 1048576: true; the input reads as it did. -/
def fnExactSurplusAtUptoRow : OpenClaim := { program := "ytfjncipekjnbjab", sum := "012b15cd3ed52fbd4ce679f042458161b3a457077b207cda2dfb9c00f577be26", func := "loop.example/salesbybids/laws.FnExactSurplusAt", spec := "fnExactSurplusAt", unfollowed := true, recurses := true, apart := false, narrowed := true }
def FnExactSurplusAtUptoSaid : Prop := fnExactSurplusAtUptoRow.holds Try.pinned (OpenSpec.upto fnExactSurplusAtSpec)

/-- 'laws.FnExactKeepsDemand', WHERE WHAT IT READS IS OF BULK AT MOST 1048576: true; the input reads as it did. -/
def fnExactKeepsDemandUptoRow : OpenClaim := { program := "ytfjncipekjnbjab", sum := "012b15cd3ed52fbd4ce679f042458161b3a457077b207cda2dfb9c00f577be26", func := "loop.example/salesbybids/laws.FnExactKeepsDemand", spec := "fnExactKeepsDemand", unfollowed := true, recurses := true, apart := false, narrowed := true }
def FnExactKeepsDemandUptoSaid : Prop := fnExactKeepsDemandUptoRow.holds Try.pinned (OpenSpec.upto fnExactKeepsDemandSpec)

/-- 'laws.FnExactIsClear', WHERE WHAT IT READS IS OF BULK AT MOST 1048576: true; the input reads as it did. -/
def fnExactIsClearUptoRow : OpenClaim := { program := "ytfjncipekjnbjab", sum := "012b15cd3ed52fbd4ce679f042458161b3a457077b207cda2dfb9c00f577be26", func := "loop.example/salesbybids/laws.FnExactIsClear", spec := "fnExactIsClear", unfollowed := true, recurses := true, apart := false, narrowed := true }
def FnExactIsClearUptoSaid : Prop := fnExactIsClearUptoRow.holds Try.pinned (OpenSpec.upto fnExactIsClearSpec)

/-- 'laws.FnExactLoadAt', WHERE WHAT IT READS IS OF BULK AT MOST 1048576: true; the input reads as it did. -/
def fnExactLoadAtUptoRow : OpenClaim := { program := "ytfjncipekjnbjab", sum := "012b15cd3ed52fbd4ce679f042458161b3a457077b207cda2dfb9c00f577be26", func := "loop.example/salesbybids/laws.FnExactLoadAt", spec := "fnExactLoadAt", unfollowed := true, recurses := true, apart := false, narrowed := true }
def FnExactLoadAtUptoSaid : Prop := fnExactLoadAtUptoRow.holds Try.pinned (OpenSpec.upto fnExactLoadAtSpec)

/-- 'laws.FnExactClimbPrices', WHERE WHAT IT READS IS OF BULK AT MOST 1048576: true; the input reads as it did. -/
def fnExactClimbPricesUptoRow : OpenClaim := { program := "ytfjncipekjnbjab", sum := "012b15cd3ed52fbd4ce679f042458161b3a457077b207cda2dfb9c00f577be26", func := "loop.example/salesbybids/laws.FnExactClimbPrices", spec := "fnExactClimbPrices", unfollowed := true, recurses := true, apart := false, narrowed := true }
def FnExactClimbPricesUptoSaid : Prop := fnExactClimbPricesUptoRow.holds Try.pinned (OpenSpec.upto fnExactClimbPricesSpec)

/-- 'laws.FnExactLeastPrices', WHERE WHAT IT READS IS OF BULK AT MOST 1048576: true; the input reads as it did. -/
def fnExactLeastPricesUptoRow : OpenClaim := { program := "ytfjncipekjnbjab", sum := "012b15cd3ed52fbd4ce679f042458161b3a457077b207cda2dfb9c00f577be26", func := "loop.example/salesbybids/laws.FnExactLeastPrices", spec := "fnExactLeastPrices", unfollowed := true, recurses := true, apart := false, narrowed := true }
def FnExactLeastPricesUptoSaid : Prop := fnExactLeastPricesUptoRow.holds Try.pinned (OpenSpec.upto fnExactLeastPricesSpec)

/-- 'laws.FnExactMostPrices', WHERE WHAT IT READS IS OF BULK AT MOST 1048576: true; the input reads as it did. -/
def fnExactMostPricesUptoRow : OpenClaim := { program := "ytfjncipekjnbjab", sum := "012b15cd3ed52fbd4ce679f042458161b3a457077b207cda2dfb9c00f577be26", func := "loop.example/salesbybids/laws.FnExactMostPrices", spec := "fnExactMostPrices", unfollowed := true, recurses := true, apart := false, narrowed := true }
def FnExactMostPricesUptoSaid : Prop := fnExactMostPricesUptoRow.holds Try.pinned (OpenSpec.upto fnExactMostPricesSpec)

/-- 'laws.FnExactClearPrices', WHERE WHAT IT READS IS OF BULK AT MOST 1048576: true; the input reads as it did. -/
def fnExactClearPricesUptoRow : OpenClaim := { program := "ytfjncipekjnbjab", sum := "012b15cd3ed52fbd4ce679f042458161b3a457077b207cda2dfb9c00f577be26", func := "loop.example/salesbybids/laws.FnExactClearPrices", spec := "fnExactClearPrices", unfollowed := true, recurses := true, apart := false, narrowed := true }
def FnExactClearPricesUptoSaid : Prop := fnExactClearPricesUptoRow.holds Try.pinned (OpenSpec.upto fnExactClearPricesSpec)

end Rows
end Go.Proofs.Ytfjncipekjnbjab
