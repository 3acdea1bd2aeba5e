/-
  No cell of these rows narrows 'for every input' (looked for: loops, veiled, ifaces, maps, wideKeys, modest, calm, conditions, laid).
  DERIVED. THE GIVEN ROWS OF THIS SEAT. 12 by the template 'for every input the law returns true; each argument reads behind the call as it read before'; 0 by the template 'total and deterministic' (their statements: YtkhpheebjkbihabTotals.lean).
  GIVEN WITH THE SEED: the statements are not yours to turn. If you find one false, say at which input.
  Laid BY PROGRAM, IN A SANDBOX (cutbox-rows.mjs): the forced cells as the released guide's own fill.sh prints them over the translation 37855f0477a3381c… (all of the seat's roots in one cut). By AI agents, Wed Nov 11 2026. No macro, syntax, notation, axiom, sorry.
-/
import Derived.Test.YtkhpheebjkbihabChecked
import GoSem.Claim
import GoSem.ClaimJoined
import GoSem.ClaimMapViews
import Derived.JoinedTies
import Derived.KernelRfl
namespace Go.Proofs.Ytkhpheebjkbihab
/- THE CELL 'sum', in the pinned program and in every row, IS THE sha256 OF THE DUMP (.gsa) THAT YtkhpheebjkbihabProg.lean LOADS. Nothing in Lean hashes anything: it is a label: what it is worth is what the hold of that sum in a sandbox is worth. -/
noncomputable def Try.pinned : Pinned := { name := "ytkhpheebjkbihab", sum := "37855f0477a3381c365f8943b86d6c5c43f61d3a3d75b85985c0c7ff57576012", checked := Try.checked }
namespace Rows
def none {H : Type} : Left H := { results := [], args := [] }

/-- 'laws.FnUnitsAreBundles': WHATEVER THE INPUT: true; the input reads as it did. -/
def fnUnitsAreBundlesSpec : ChangeSpec := { name := "fnUnitsAreBundles", fn := fun _ => fun
  | [d] => { results := [.lit (.bool true)], args := [d] }
  | _ => none }
def fnUnitsAreBundlesRow : OpenClaim := { program := "ytkhpheebjkbihab", sum := "37855f0477a3381c365f8943b86d6c5c43f61d3a3d75b85985c0c7ff57576012", func := "loop.example/salesbybids/laws.FnUnitsAreBundles", spec := "fnUnitsAreBundles", unfollowed := true, recurses := true, apart := false }
def FnUnitsAreBundlesSaid : Prop := fnUnitsAreBundlesRow.holds Try.pinned (OpenSpec.ofChange fnUnitsAreBundlesSpec)

/-- ITS FALSE NEIGHBOUR: 'it returns false'. Refute it at one input. -/
def fnUnitsAreBundlesWrong : ChangeSpec := { name := "fnUnitsAreBundles", fn := fun _ => fun
  | [d] => { results := [.lit (.bool false)], args := [d] }
  | _ => none }
def FnUnitsAreBundlesWrongFalsely : Prop := fnUnitsAreBundlesRow.holds Try.pinned (OpenSpec.ofChange fnUnitsAreBundlesWrong)

/-- 'laws.FnLoadsAreSmooth': WHATEVER THE INPUT: true; the input reads as it did. -/
def fnLoadsAreSmoothSpec : ChangeSpec := { name := "fnLoadsAreSmooth", fn := fun _ => fun
  | [d] => { results := [.lit (.bool true)], args := [d] }
  | _ => none }
def fnLoadsAreSmoothRow : OpenClaim := { program := "ytkhpheebjkbihab", sum := "37855f0477a3381c365f8943b86d6c5c43f61d3a3d75b85985c0c7ff57576012", func := "loop.example/salesbybids/laws.FnLoadsAreSmooth", spec := "fnLoadsAreSmooth", unfollowed := true, recurses := true, apart := false }
def FnLoadsAreSmoothSaid : Prop := fnLoadsAreSmoothRow.holds Try.pinned (OpenSpec.ofChange fnLoadsAreSmoothSpec)

/-- ITS FALSE NEIGHBOUR: 'it returns false'. Refute it at one input. -/
def fnLoadsAreSmoothWrong : ChangeSpec := { name := "fnLoadsAreSmooth", fn := fun _ => fun
  | [d] => { results := [.lit (.bool false)], args := [d] }
  | _ => none }
def FnLoadsAreSmoothWrongFalsely : Prop := fnLoadsAreSmoothRow.holds Try.pinned (OpenSpec.ofChange fnLoadsAreSmoothWrong)

/-- 'laws.FnMorePairsAreDearer': WHATEVER THE INPUT: true; the input reads as it did. -/
def fnMorePairsAreDearerSpec : ChangeSpec := { name := "fnMorePairsAreDearer", fn := fun _ => fun
  | [d] => { results := [.lit (.bool true)], args := [d] }
  | _ => none }
def fnMorePairsAreDearerRow : OpenClaim := { program := "ytkhpheebjkbihab", sum := "37855f0477a3381c365f8943b86d6c5c43f61d3a3d75b85985c0c7ff57576012", func := "loop.example/salesbybids/laws.FnMorePairsAreDearer", spec := "fnMorePairsAreDearer", unfollowed := true, recurses := true, apart := false }
def FnMorePairsAreDearerSaid : Prop := fnMorePairsAreDearerRow.holds Try.pinned (OpenSpec.ofChange fnMorePairsAreDearerSpec)

/-- ITS FALSE NEIGHBOUR: 'it returns false'. Refute it at one input. -/
def fnMorePairsAreDearerWrong : ChangeSpec := { name := "fnMorePairsAreDearer", fn := fun _ => fun
  | [d] => { results := [.lit (.bool false)], args := [d] }
  | _ => none }
def FnMorePairsAreDearerWrongFalsely : Prop := fnMorePairsAreDearerRow.holds Try.pinned (OpenSpec.ofChange fnMorePairsAreDearerWrong)

/-- 'laws.FnExactClimbPrices': WHATEVER THE INPUT: true; the input reads as it did. -/
def fnExactClimbPricesSpec : ChangeSpec := { name := "fnExactClimbPrices", fn := fun _ => fun
  | [d] => { results := [.lit (.bool true)], args := [d] }
  | _ => none }
def fnExactClimbPricesRow : OpenClaim := { program := "ytkhpheebjkbihab", sum := "37855f0477a3381c365f8943b86d6c5c43f61d3a3d75b85985c0c7ff57576012", func := "loop.example/salesbybids/laws.FnExactClimbPrices", spec := "fnExactClimbPrices", unfollowed := true, recurses := true, apart := false }
def FnExactClimbPricesSaid : Prop := fnExactClimbPricesRow.holds Try.pinned (OpenSpec.ofChange fnExactClimbPricesSpec)

/-- ITS FALSE NEIGHBOUR: 'it returns false'. Refute it at one input. -/
def fnExactClimbPricesWrong : ChangeSpec := { name := "fnExactClimbPrices", fn := fun _ => fun
  | [d] => { results := [.lit (.bool false)], args := [d] }
  | _ => none }
def FnExactClimbPricesWrongFalsely : Prop := fnExactClimbPricesRow.holds Try.pinned (OpenSpec.ofChange fnExactClimbPricesWrong)

/-- 'laws.FnExactLeastPrices': WHATEVER THE INPUT: true; the input reads as it did. -/
def fnExactLeastPricesSpec : ChangeSpec := { name := "fnExactLeastPrices", fn := fun _ => fun
  | [d] => { results := [.lit (.bool true)], args := [d] }
  | _ => none }
def fnExactLeastPricesRow : OpenClaim := { program := "ytkhpheebjkbihab", sum := "37855f0477a3381c365f8943b86d6c5c43f61d3a3d75b85985c0c7ff57576012", func := "loop.example/salesbybids/laws.FnExactLeastPrices", spec := "fnExactLeastPrices", unfollowed := true, recurses := true, apart := false }
def FnExactLeastPricesSaid : Prop := fnExactLeastPricesRow.holds Try.pinned (OpenSpec.ofChange fnExactLeastPricesSpec)

/-- ITS FALSE NEIGHBOUR: 'it returns false'. Refute it at one input. -/
def fnExactLeastPricesWrong : ChangeSpec := { name := "fnExactLeastPrices", fn := fun _ => fun
  | [d] => { results := [.lit (.bool false)], args := [d] }
  | _ => none }
def FnExactLeastPricesWrongFalsely : Prop := fnExactLeastPricesRow.holds Try.pinned (OpenSpec.ofChange fnExactLeastPricesWrong)

/-- 'laws.FnExactClearPrices': WHATEVER THE INPUT: true; the input reads as it did. -/
def fnExactClearPricesSpec : ChangeSpec := { name := "fnExactClearPrices", fn := fun _ => fun
  | [d1, d2] => { results := [.lit (.bool true)], args := [d1, d2] }
  | _ => none }
def fnExactClearPricesRow : OpenClaim := { program := "ytkhpheebjkbihab", sum := "37855f0477a3381c365f8943b86d6c5c43f61d3a3d75b85985c0c7ff57576012", func := "loop.example/salesbybids/laws.FnExactClearPrices", spec := "fnExactClearPrices", unfollowed := true, recurses := true, apart := false }
def FnExactClearPricesSaid : Prop := fnExactClearPricesRow.holds Try.pinned (OpenSpec.ofChange fnExactClearPricesSpec)

/-- ITS FALSE NEIGHBOUR: 'it returns false'. Refute it at one input. -/
def fnExactClearPricesWrong : ChangeSpec := { name := "fnExactClearPrices", fn := fun _ => fun
  | [d1, d2] => { results := [.lit (.bool false)], args := [d1, d2] }
  | _ => none }
def FnExactClearPricesWrongFalsely : Prop := fnExactClearPricesRow.holds Try.pinned (OpenSpec.ofChange fnExactClearPricesWrong)

/-- 'laws.FnExactValidRows': WHATEVER THE INPUT: true; the input reads as it did. -/
def fnExactValidRowsSpec : ChangeSpec := { name := "fnExactValidRows", fn := fun _ => fun
  | [d] => { results := [.lit (.bool true)], args := [d] }
  | _ => none }
def fnExactValidRowsRow : OpenClaim := { program := "ytkhpheebjkbihab", sum := "37855f0477a3381c365f8943b86d6c5c43f61d3a3d75b85985c0c7ff57576012", func := "loop.example/salesbybids/laws.FnExactValidRows", spec := "fnExactValidRows", unfollowed := true, recurses := true, apart := false }
def FnExactValidRowsSaid : Prop := fnExactValidRowsRow.holds Try.pinned (OpenSpec.ofChange fnExactValidRowsSpec)

/-- ITS FALSE NEIGHBOUR: 'it returns false'. Refute it at one input. -/
def fnExactValidRowsWrong : ChangeSpec := { name := "fnExactValidRows", fn := fun _ => fun
  | [d] => { results := [.lit (.bool false)], args := [d] }
  | _ => none }
def FnExactValidRowsWrongFalsely : Prop := fnExactValidRowsRow.holds Try.pinned (OpenSpec.ofChange fnExactValidRowsWrong)

/-- 'laws.FnExactBestPairs': WHATEVER THE INPUT: true; the input reads as it did. -/
def fnExactBestPairsSpec : ChangeSpec := { name := "fnExactBestPairs", fn := fun _ => fun
  | [d] => { results := [.lit (.bool true)], args := [d] }
  | _ => none }
def fnExactBestPairsRow : OpenClaim := { program := "ytkhpheebjkbihab", sum := "37855f0477a3381c365f8943b86d6c5c43f61d3a3d75b85985c0c7ff57576012", func := "loop.example/salesbybids/laws.FnExactBestPairs", spec := "fnExactBestPairs", unfollowed := true, recurses := true, apart := false }
def FnExactBestPairsSaid : Prop := fnExactBestPairsRow.holds Try.pinned (OpenSpec.ofChange fnExactBestPairsSpec)

/-- ITS FALSE NEIGHBOUR: 'it returns false'. Refute it at one input. -/
def fnExactBestPairsWrong : ChangeSpec := { name := "fnExactBestPairs", fn := fun _ => fun
  | [d] => { results := [.lit (.bool false)], args := [d] }
  | _ => none }
def FnExactBestPairsWrongFalsely : Prop := fnExactBestPairsRow.holds Try.pinned (OpenSpec.ofChange fnExactBestPairsWrong)

/-- 'laws.FnExactPairPrices': WHATEVER THE INPUT: true; the input reads as it did. -/
def fnExactPairPricesSpec : ChangeSpec := { name := "fnExactPairPrices", fn := fun _ => fun
  | [d] => { results := [.lit (.bool true)], args := [d] }
  | _ => none }
def fnExactPairPricesRow : OpenClaim := { program := "ytkhpheebjkbihab", sum := "37855f0477a3381c365f8943b86d6c5c43f61d3a3d75b85985c0c7ff57576012", func := "loop.example/salesbybids/laws.FnExactPairPrices", spec := "fnExactPairPrices", unfollowed := true, recurses := true, apart := false }
def FnExactPairPricesSaid : Prop := fnExactPairPricesRow.holds Try.pinned (OpenSpec.ofChange fnExactPairPricesSpec)

/-- ITS FALSE NEIGHBOUR: 'it returns false'. Refute it at one input. -/
def fnExactPairPricesWrong : ChangeSpec := { name := "fnExactPairPrices", fn := fun _ => fun
  | [d] => { results := [.lit (.bool false)], args := [d] }
  | _ => none }
def FnExactPairPricesWrongFalsely : Prop := fnExactPairPricesRow.holds Try.pinned (OpenSpec.ofChange fnExactPairPricesWrong)

/-- 'laws.FnExactPairPays': WHATEVER THE INPUT: true; the input reads as it did. -/
def fnExactPairPaysSpec : ChangeSpec := { name := "fnExactPairPays", fn := fun _ => fun
  | [d] => { results := [.lit (.bool true)], args := [d] }
  | _ => none }
def fnExactPairPaysRow : OpenClaim := { program := "ytkhpheebjkbihab", sum := "37855f0477a3381c365f8943b86d6c5c43f61d3a3d75b85985c0c7ff57576012", func := "loop.example/salesbybids/laws.FnExactPairPays", spec := "fnExactPairPays", unfollowed := true, recurses := true, apart := false }
def FnExactPairPaysSaid : Prop := fnExactPairPaysRow.holds Try.pinned (OpenSpec.ofChange fnExactPairPaysSpec)

/-- ITS FALSE NEIGHBOUR: 'it returns false'. Refute it at one input. -/
def fnExactPairPaysWrong : ChangeSpec := { name := "fnExactPairPays", fn := fun _ => fun
  | [d] => { results := [.lit (.bool false)], args := [d] }
  | _ => none }
def FnExactPairPaysWrongFalsely : Prop := fnExactPairPaysRow.holds Try.pinned (OpenSpec.ofChange fnExactPairPaysWrong)

/-- 'laws.FnExactGoWithPairs': WHATEVER THE INPUT: true; the input reads as it did. -/
def fnExactGoWithPairsSpec : ChangeSpec := { name := "fnExactGoWithPairs", fn := fun _ => fun
  | [d1, d2] => { results := [.lit (.bool true)], args := [d1, d2] }
  | _ => none }
def fnExactGoWithPairsRow : OpenClaim := { program := "ytkhpheebjkbihab", sum := "37855f0477a3381c365f8943b86d6c5c43f61d3a3d75b85985c0c7ff57576012", func := "loop.example/salesbybids/laws.FnExactGoWithPairs", spec := "fnExactGoWithPairs", unfollowed := true, recurses := true, apart := false }
def FnExactGoWithPairsSaid : Prop := fnExactGoWithPairsRow.holds Try.pinned (OpenSpec.ofChange fnExactGoWithPairsSpec)

/-- ITS FALSE NEIGHBOUR: 'it returns false'. Refute it at one input. -/
def fnExactGoWithPairsWrong : ChangeSpec := { name := "fnExactGoWithPairs", fn := fun _ => fun
  | [d1, d2] => { results := [.lit (.bool false)], args := [d1, d2] }
  | _ => none }
def FnExactGoWithPairsWrongFalsely : Prop := fnExactGoWithPairsRow.holds Try.pinned (OpenSpec.ofChange fnExactGoWithPairsWrong)

/-- 'laws.FnExactMostPairPrices': WHATEVER THE INPUT: true; the input reads as it did. -/
def fnExactMostPairPricesSpec : ChangeSpec := { name := "fnExactMostPairPrices", fn := fun _ => fun
  | [d] => { results := [.lit (.bool true)], args := [d] }
  | _ => none }
def fnExactMostPairPricesRow : OpenClaim := { program := "ytkhpheebjkbihab", sum := "37855f0477a3381c365f8943b86d6c5c43f61d3a3d75b85985c0c7ff57576012", func := "loop.example/salesbybids/laws.FnExactMostPairPrices", spec := "fnExactMostPairPrices", unfollowed := true, recurses := true, apart := false }
def FnExactMostPairPricesSaid : Prop := fnExactMostPairPricesRow.holds Try.pinned (OpenSpec.ofChange fnExactMostPairPricesSpec)

/-- ITS FALSE NEIGHBOUR: 'it returns false'. Refute it at one input. -/
def fnExactMostPairPricesWrong : ChangeSpec := { name := "fnExactMostPairPrices", fn := fun _ => fun
  | [d] => { results := [.lit (.bool false)], args := [d] }
  | _ => none }
def FnExactMostPairPricesWrongFalsely : Prop := fnExactMostPairPricesRow.holds Try.pinned (OpenSpec.ofChange fnExactMostPairPricesWrong)

/- THE SECOND FORM. 'bulk': how many values and letters a reading holds, each counted each time it is reached (what is shared counts as often as it is met; a slice's spare places count too). A statement '..UptoSaid' is the law's where the arguments, and the package variables that the reading takes, are together of bulk at most 1048576: NARROWER than '..Said'. Prove '..Said' where nothing that the law and all that it calls make is longer than what came in: it says more and counts as full. Else prove '..UptoSaid'. A law counts once. -/
mutual
def uptoBulk {H : Type} : DataW H → Nat
  | .lit (.string bytes) => bytes.length + 1
  | .lit _ => 1
  | .nil => 1
  | .ptr d => uptoBulk d + 1
  | .slice elems spare => uptoBulkAll elems + uptoBulkAll spare + 1
  | .agg parts => uptoBulkAll parts + 1
  | .iface _ d => uptoBulk d + 1
  | .map entries => uptoBulkEntries entries + 1
  | .held _ => 1
def uptoBulkAll {H : Type} : List (DataW H) → Nat
  | [] => 0
  | d :: r => uptoBulk d + uptoBulkAll r
def uptoBulkEntries {H : Type} : List (Lit × DataW H) → Nat
  | [] => 0
  | x :: r => uptoBulkEntry x + uptoBulkEntries r
def uptoBulkEntry {H : Type} : Lit × DataW H → Nat
  | (.string bytes, d) => bytes.length + uptoBulk d + 1
  | (_, d) => uptoBulk d + 1
 end
def uptoSmall : (H : Type) → List (DataW H) → Bool := fun _ ds => decide (uptoBulkAll ds ≤ 1048576)
def OpenSpec.upto (s : _root_.Go.ChangeSpec) : _root_.Go.OpenSpec := { _root_.Go.OpenSpec.ofChange s with cond := some uptoSmall }

/-- 'laws.FnUnitsAreBundles', WHERE WHAT IT READS IS OF BULK AT MOST 1048576: true; the input reads as it did. -/
def fnUnitsAreBundlesUptoRow : OpenClaim := { program := "ytkhpheebjkbihab", sum := "37855f0477a3381c365f8943b86d6c5c43f61d3a3d75b85985c0c7ff57576012", func := "loop.example/salesbybids/laws.FnUnitsAreBundles", spec := "fnUnitsAreBundles", unfollowed := true, recurses := true, apart := false, narrowed := true }
def FnUnitsAreBundlesUptoSaid : Prop := fnUnitsAreBundlesUptoRow.holds Try.pinned (OpenSpec.upto fnUnitsAreBundlesSpec)

/-- 'laws.FnLoadsAreSmooth', WHERE WHAT IT READS IS OF BULK AT MOST 1048576: true; the input reads as it did. -/
def fnLoadsAreSmoothUptoRow : OpenClaim := { program := "ytkhpheebjkbihab", sum := "37855f0477a3381c365f8943b86d6c5c43f61d3a3d75b85985c0c7ff57576012", func := "loop.example/salesbybids/laws.FnLoadsAreSmooth", spec := "fnLoadsAreSmooth", unfollowed := true, recurses := true, apart := false, narrowed := true }
def FnLoadsAreSmoothUptoSaid : Prop := fnLoadsAreSmoothUptoRow.holds Try.pinned (OpenSpec.upto fnLoadsAreSmoothSpec)

/-- 'laws.FnMorePairsAreDearer', WHERE WHAT IT READS IS OF BULK AT MOST 1048576: true; the input reads as it did. -/
def fnMorePairsAreDearerUptoRow : OpenClaim := { program := "ytkhpheebjkbihab", sum := "37855f0477a3381c365f8943b86d6c5c43f61d3a3d75b85985c0c7ff57576012", func := "loop.example/salesbybids/laws.FnMorePairsAreDearer", spec := "fnMorePairsAreDearer", unfollowed := true, recurses := true, apart := false, narrowed := true }
def FnMorePairsAreDearerUptoSaid : Prop := fnMorePairsAreDearerUptoRow.holds Try.pinned (OpenSpec.upto fnMorePairsAreDearerSpec)

/-- 'laws.FnExactClimbPrices', WHERE WHAT IT READS IS OF BULK AT MOST 1048576: true; the input reads as it did. -/
def fnExactClimbPricesUptoRow : OpenClaim := { program := "ytkhpheebjkbihab", sum := "37855f0477a3381c365f8943b86d6c5c43f61d3a3d75b85985c0c7ff57576012", func := "loop.example/salesbybids/laws.FnExactClimbPrices", spec := "fnExactClimbPrices", unfollowed := true, recurses := true, apart := false, narrowed := true }
def FnExactClimbPricesUptoSaid : Prop := fnExactClimbPricesUptoRow.holds Try.pinned (OpenSpec.upto fnExactClimbPricesSpec)

/-- 'laws.FnExactLeastPrices', WHERE WHAT IT READS IS OF BULK AT MOST 1048576: true; the input reads as it did. -/
def fnExactLeastPricesUptoRow : OpenClaim := { program := "ytkhpheebjkbihab", sum := "37855f0477a3381c365f8943b86d6c5c43f61d3a3d75b85985c0c7ff57576012", func := "loop.example/salesbybids/laws.FnExactLeastPrices", spec := "fnExactLeastPrices", unfollowed := true, recurses := true, apart := false, narrowed := true }
def FnExactLeastPricesUptoSaid : Prop := fnExactLeastPricesUptoRow.holds Try.pinned (OpenSpec.upto fnExactLeastPricesSpec)

/-- 'laws.FnExactClearPrices', WHERE WHAT IT READS IS OF BULK AT MOST 1048576: true; the input reads as it did. -/
def fnExactClearPricesUptoRow : OpenClaim := { program := "ytkhpheebjkbihab", sum := "37855f0477a3381c365f8943b86d6c5c43f61d3a3d75b85985c0c7ff57576012", func := "loop.example/salesbybids/laws.FnExactClearPrices", spec := "fnExactClearPrices", unfollowed := true, recurses := true, apart := false, narrowed := true }
def FnExactClearPricesUptoSaid : Prop := fnExactClearPricesUptoRow.holds Try.pinned (OpenSpec.upto fnExactClearPricesSpec)

/-- 'laws.FnExactValidRows', WHERE WHAT IT READS IS OF BULK AT MOST 1048576: true; the input reads as it did. -/
def fnExactValidRowsUptoRow : OpenClaim := { program := "ytkhpheebjkbihab", sum := "37855f0477a3381c365f8943b86d6c5c43f61d3a3d75b85985c0c7ff57576012", func := "loop.example/salesbybids/laws.FnExactValidRows", spec := "fnExactValidRows", unfollowed := true, recurses := true, apart := false, narrowed := true }
def FnExactValidRowsUptoSaid : Prop := fnExactValidRowsUptoRow.holds Try.pinned (OpenSpec.upto fnExactValidRowsSpec)

/-- 'laws.FnExactBestPairs', WHERE WHAT IT READS IS OF BULK AT MOST 1048576: true; the input reads as it did. -/
def fnExactBestPairsUptoRow : OpenClaim := { program := "ytkhpheebjkbihab", sum := "37855f0477a3381c365f8943b86d6c5c43f61d3a3d75b85985c0c7ff57576012", func := "loop.example/salesbybids/laws.FnExactBestPairs", spec := "fnExactBestPairs", unfollowed := true, recurses := true, apart := false, narrowed := true }
def FnExactBestPairsUptoSaid : Prop := fnExactBestPairsUptoRow.holds Try.pinned (OpenSpec.upto fnExactBestPairsSpec)

/-- 'laws.FnExactPairPrices', WHERE WHAT IT READS IS OF BULK AT MOST 1048576: true; the input reads as it did. -/
def fnExactPairPricesUptoRow : OpenClaim := { program := "ytkhpheebjkbihab", sum := "37855f0477a3381c365f8943b86d6c5c43f61d3a3d75b85985c0c7ff57576012", func := "loop.example/salesbybids/laws.FnExactPairPrices", spec := "fnExactPairPrices", unfollowed := true, recurses := true, apart := false, narrowed := true }
def FnExactPairPricesUptoSaid : Prop := fnExactPairPricesUptoRow.holds Try.pinned (OpenSpec.upto fnExactPairPricesSpec)

/-- 'laws.FnExactPairPays', WHERE WHAT IT READS IS OF BULK AT MOST 1048576: true; the input reads as it did. -/
def fnExactPairPaysUptoRow : OpenClaim := { program := "ytkhpheebjkbihab", sum := "37855f0477a3381c365f8943b86d6c5c43f61d3a3d75b85985c0c7ff57576012", func := "loop.example/salesbybids/laws.FnExactPairPays", spec := "fnExactPairPays", unfollowed := true, recurses := true, apart := false, narrowed := true }
def FnExactPairPaysUptoSaid : Prop := fnExactPairPaysUptoRow.holds Try.pinned (OpenSpec.upto fnExactPairPaysSpec)

/-- 'laws.FnExactGoWithPairs', WHERE WHAT IT READS IS OF BULK AT MOST 1048576: true; the input reads as it did. -/
def fnExactGoWithPairsUptoRow : OpenClaim := { program := "ytkhpheebjkbihab", sum := "37855f0477a3381c365f8943b86d6c5c43f61d3a3d75b85985c0c7ff57576012", func := "loop.example/salesbybids/laws.FnExactGoWithPairs", spec := "fnExactGoWithPairs", unfollowed := true, recurses := true, apart := false, narrowed := true }
def FnExactGoWithPairsUptoSaid : Prop := fnExactGoWithPairsUptoRow.holds Try.pinned (OpenSpec.upto fnExactGoWithPairsSpec)

/-- 'laws.FnExactMostPairPrices', WHERE WHAT IT READS IS OF BULK AT MOST 1048576: true; the input reads as it did. -/
def fnExactMostPairPricesUptoRow : OpenClaim := { program := "ytkhpheebjkbihab", sum := "37855f0477a3381c365f8943b86d6c5c43f61d3a3d75b85985c0c7ff57576012", func := "loop.example/salesbybids/laws.FnExactMostPairPrices", spec := "fnExactMostPairPrices", unfollowed := true, recurses := true, apart := false, narrowed := true }
def FnExactMostPairPricesUptoSaid : Prop := fnExactMostPairPricesUptoRow.holds Try.pinned (OpenSpec.upto fnExactMostPairPricesSpec)

end Rows
end Go.Proofs.Ytkhpheebjkbihab
