/-
  No cell of these rows narrows 'for every input' (looked for: loops, veiled, ifaces, maps, wideKeys, modest, calm, conditions, laid).
  DERIVED. THE GIVEN ROWS OF THIS SEAT. 11 by the template 'for every input the law returns true; each argument reads behind the call as it read before'; 0 by the template 'total and deterministic' (their statements: YtpildecpabeanaaTotals.lean).
  GIVEN WITH THE SEED: the statements are not yours to turn. If you find one false, say at which input.
  Laid BY PROGRAM, IN A SANDBOX (cutbox-rows.mjs): the forced cells as the released guide's own fill.sh prints them over the translation 3a80d1447ff18e0a… (all of the seat's roots in one cut). By AI agents, Wed Nov 11 2026. No macro, syntax, notation, axiom, sorry.
-/
import Derived.Test.YtpildecpabeanaaChecked
import GoSem.Claim
import GoSem.ClaimJoined
import GoSem.ClaimMapViews
import Derived.JoinedTies
import Derived.KernelRfl
namespace Go.Proofs.Ytpildecpabeanaa
/- THE CELL 'sum', in the pinned program and in every row, IS THE sha256 OF THE DUMP (.gsa) THAT YtpildecpabeanaaProg.lean LOADS. Nothing in Lean hashes anything: it is a label: what it is worth is what the hold of that sum in a sandbox is worth. -/
noncomputable def Try.pinned : Pinned := { name := "ytpildecpabeanaa", sum := "3a80d1447ff18e0a897397134557c8298ea261dcae780e339bbf3fd4a6f48e49", checked := Try.checked }
namespace Rows
def none {H : Type} : Left H := { results := [], args := [] }

/-- 'laws.FnTradesOf': WHATEVER THE INPUT: true; the input reads as it did. -/
def fnTradesOfSpec : ChangeSpec := { name := "fnTradesOf", fn := fun _ => fun
  | [d] => { results := [.lit (.bool true)], args := [d] }
  | _ => none }
def fnTradesOfRow : OpenClaim := { program := "ytpildecpabeanaa", sum := "3a80d1447ff18e0a897397134557c8298ea261dcae780e339bbf3fd4a6f48e49", func := "loop.example/salesbybids/laws.FnTradesOf", spec := "fnTradesOf", unfollowed := true, recurses := true, apart := false }
def FnTradesOfSaid : Prop := fnTradesOfRow.holds Try.pinned (OpenSpec.ofChange fnTradesOfSpec)

/-- ITS FALSE NEIGHBOUR: 'it returns false'. Refute it at one input. -/
def fnTradesOfWrong : ChangeSpec := { name := "fnTradesOf", fn := fun _ => fun
  | [d] => { results := [.lit (.bool false)], args := [d] }
  | _ => none }
def FnTradesOfWrongFalsely : Prop := fnTradesOfRow.holds Try.pinned (OpenSpec.ofChange fnTradesOfWrong)

/-- 'laws.FnTradeRange': WHATEVER THE INPUT: true; the input reads as it did. -/
def fnTradeRangeSpec : ChangeSpec := { name := "fnTradeRange", fn := fun _ => fun
  | [d] => { results := [.lit (.bool true)], args := [d] }
  | _ => none }
def fnTradeRangeRow : OpenClaim := { program := "ytpildecpabeanaa", sum := "3a80d1447ff18e0a897397134557c8298ea261dcae780e339bbf3fd4a6f48e49", func := "loop.example/salesbybids/laws.FnTradeRange", spec := "fnTradeRange", unfollowed := true, recurses := true, apart := false }
def FnTradeRangeSaid : Prop := fnTradeRangeRow.holds Try.pinned (OpenSpec.ofChange fnTradeRangeSpec)

/-- ITS FALSE NEIGHBOUR: 'it returns false'. Refute it at one input. -/
def fnTradeRangeWrong : ChangeSpec := { name := "fnTradeRange", fn := fun _ => fun
  | [d] => { results := [.lit (.bool false)], args := [d] }
  | _ => none }
def FnTradeRangeWrongFalsely : Prop := fnTradeRangeRow.holds Try.pinned (OpenSpec.ofChange fnTradeRangeWrong)

/-- 'laws.FnTradeLess': WHATEVER THE INPUT: true; the input reads as it did. -/
def fnTradeLessSpec : ChangeSpec := { name := "fnTradeLess", fn := fun _ => fun
  | [d] => { results := [.lit (.bool true)], args := [d] }
  | _ => none }
def fnTradeLessRow : OpenClaim := { program := "ytpildecpabeanaa", sum := "3a80d1447ff18e0a897397134557c8298ea261dcae780e339bbf3fd4a6f48e49", func := "loop.example/salesbybids/laws.FnTradeLess", spec := "fnTradeLess", unfollowed := true, recurses := true, apart := false }
def FnTradeLessSaid : Prop := fnTradeLessRow.holds Try.pinned (OpenSpec.ofChange fnTradeLessSpec)

/-- ITS FALSE NEIGHBOUR: 'it returns false'. Refute it at one input. -/
def fnTradeLessWrong : ChangeSpec := { name := "fnTradeLess", fn := fun _ => fun
  | [d] => { results := [.lit (.bool false)], args := [d] }
  | _ => none }
def FnTradeLessWrongFalsely : Prop := fnTradeLessRow.holds Try.pinned (OpenSpec.ofChange fnTradeLessWrong)

/-- 'laws.FnTradeGain': WHATEVER THE INPUT: true; the input reads as it did. -/
def fnTradeGainSpec : ChangeSpec := { name := "fnTradeGain", fn := fun _ => fun
  | [d] => { results := [.lit (.bool true)], args := [d] }
  | _ => none }
def fnTradeGainRow : OpenClaim := { program := "ytpildecpabeanaa", sum := "3a80d1447ff18e0a897397134557c8298ea261dcae780e339bbf3fd4a6f48e49", func := "loop.example/salesbybids/laws.FnTradeGain", spec := "fnTradeGain", unfollowed := true, recurses := true, apart := false }
def FnTradeGainSaid : Prop := fnTradeGainRow.holds Try.pinned (OpenSpec.ofChange fnTradeGainSpec)

/-- ITS FALSE NEIGHBOUR: 'it returns false'. Refute it at one input. -/
def fnTradeGainWrong : ChangeSpec := { name := "fnTradeGain", fn := fun _ => fun
  | [d] => { results := [.lit (.bool false)], args := [d] }
  | _ => none }
def FnTradeGainWrongFalsely : Prop := fnTradeGainRow.holds Try.pinned (OpenSpec.ofChange fnTradeGainWrong)

/-- 'laws.FnSellersTellTruth': WHATEVER THE INPUT: true; the input reads as it did. -/
def fnSellersTellTruthSpec : ChangeSpec := { name := "fnSellersTellTruth", fn := fun _ => fun
  | [d] => { results := [.lit (.bool true)], args := [d] }
  | _ => none }
def fnSellersTellTruthRow : OpenClaim := { program := "ytpildecpabeanaa", sum := "3a80d1447ff18e0a897397134557c8298ea261dcae780e339bbf3fd4a6f48e49", func := "loop.example/salesbybids/laws.FnSellersTellTruth", spec := "fnSellersTellTruth", unfollowed := true, recurses := true, apart := false }
def FnSellersTellTruthSaid : Prop := fnSellersTellTruthRow.holds Try.pinned (OpenSpec.ofChange fnSellersTellTruthSpec)

/-- ITS FALSE NEIGHBOUR: 'it returns false'. Refute it at one input. -/
def fnSellersTellTruthWrong : ChangeSpec := { name := "fnSellersTellTruth", fn := fun _ => fun
  | [d] => { results := [.lit (.bool false)], args := [d] }
  | _ => none }
def FnSellersTellTruthWrongFalsely : Prop := fnSellersTellTruthRow.holds Try.pinned (OpenSpec.ofChange fnSellersTellTruthWrong)

/-- 'laws.FnInCore': WHATEVER THE INPUT: true; the input reads as it did. -/
def fnInCoreSpec : ChangeSpec := { name := "fnInCore", fn := fun _ => fun
  | [d] => { results := [.lit (.bool true)], args := [d] }
  | _ => none }
def fnInCoreRow : OpenClaim := { program := "ytpildecpabeanaa", sum := "3a80d1447ff18e0a897397134557c8298ea261dcae780e339bbf3fd4a6f48e49", func := "loop.example/salesbybids/laws.FnInCore", spec := "fnInCore", unfollowed := true, recurses := true, apart := false }
def FnInCoreSaid : Prop := fnInCoreRow.holds Try.pinned (OpenSpec.ofChange fnInCoreSpec)

/-- ITS FALSE NEIGHBOUR: 'it returns false'. Refute it at one input. -/
def fnInCoreWrong : ChangeSpec := { name := "fnInCore", fn := fun _ => fun
  | [d] => { results := [.lit (.bool false)], args := [d] }
  | _ => none }
def FnInCoreWrongFalsely : Prop := fnInCoreRow.holds Try.pinned (OpenSpec.ofChange fnInCoreWrong)

/-- 'laws.FnLeastCore': WHATEVER THE INPUT: true; the input reads as it did. -/
def fnLeastCoreSpec : ChangeSpec := { name := "fnLeastCore", fn := fun _ => fun
  | [d] => { results := [.lit (.bool true)], args := [d] }
  | _ => none }
def fnLeastCoreRow : OpenClaim := { program := "ytpildecpabeanaa", sum := "3a80d1447ff18e0a897397134557c8298ea261dcae780e339bbf3fd4a6f48e49", func := "loop.example/salesbybids/laws.FnLeastCore", spec := "fnLeastCore", unfollowed := true, recurses := true, apart := false }
def FnLeastCoreSaid : Prop := fnLeastCoreRow.holds Try.pinned (OpenSpec.ofChange fnLeastCoreSpec)

/-- ITS FALSE NEIGHBOUR: 'it returns false'. Refute it at one input. -/
def fnLeastCoreWrong : ChangeSpec := { name := "fnLeastCore", fn := fun _ => fun
  | [d] => { results := [.lit (.bool false)], args := [d] }
  | _ => none }
def FnLeastCoreWrongFalsely : Prop := fnLeastCoreRow.holds Try.pinned (OpenSpec.ofChange fnLeastCoreWrong)

/-- 'laws.FnPivotsOfOnes': WHATEVER THE INPUT: true; the input reads as it did. -/
def fnPivotsOfOnesSpec : ChangeSpec := { name := "fnPivotsOfOnes", fn := fun _ => fun
  | [d] => { results := [.lit (.bool true)], args := [d] }
  | _ => none }
def fnPivotsOfOnesRow : OpenClaim := { program := "ytpildecpabeanaa", sum := "3a80d1447ff18e0a897397134557c8298ea261dcae780e339bbf3fd4a6f48e49", func := "loop.example/salesbybids/laws.FnPivotsOfOnes", spec := "fnPivotsOfOnes", unfollowed := true, recurses := true, apart := false }
def FnPivotsOfOnesSaid : Prop := fnPivotsOfOnesRow.holds Try.pinned (OpenSpec.ofChange fnPivotsOfOnesSpec)

/-- ITS FALSE NEIGHBOUR: 'it returns false'. Refute it at one input. -/
def fnPivotsOfOnesWrong : ChangeSpec := { name := "fnPivotsOfOnes", fn := fun _ => fun
  | [d] => { results := [.lit (.bool false)], args := [d] }
  | _ => none }
def FnPivotsOfOnesWrongFalsely : Prop := fnPivotsOfOnesRow.holds Try.pinned (OpenSpec.ofChange fnPivotsOfOnesWrong)

/-- 'laws.FnPairPrices': WHATEVER THE INPUT: true; the input reads as it did. -/
def fnPairPricesSpec : ChangeSpec := { name := "fnPairPrices", fn := fun _ => fun
  | [d] => { results := [.lit (.bool true)], args := [d] }
  | _ => none }
def fnPairPricesRow : OpenClaim := { program := "ytpildecpabeanaa", sum := "3a80d1447ff18e0a897397134557c8298ea261dcae780e339bbf3fd4a6f48e49", func := "loop.example/salesbybids/laws.FnPairPrices", spec := "fnPairPrices", unfollowed := true, recurses := true, apart := false }
def FnPairPricesSaid : Prop := fnPairPricesRow.holds Try.pinned (OpenSpec.ofChange fnPairPricesSpec)

/-- ITS FALSE NEIGHBOUR: 'it returns false'. Refute it at one input. -/
def fnPairPricesWrong : ChangeSpec := { name := "fnPairPrices", fn := fun _ => fun
  | [d] => { results := [.lit (.bool false)], args := [d] }
  | _ => none }
def FnPairPricesWrongFalsely : Prop := fnPairPricesRow.holds Try.pinned (OpenSpec.ofChange fnPairPricesWrong)

/-- 'laws.FnGoWithPairs': WHATEVER THE INPUT: true; the input reads as it did. -/
def fnGoWithPairsSpec : ChangeSpec := { name := "fnGoWithPairs", fn := fun _ => fun
  | [d] => { results := [.lit (.bool true)], args := [d] }
  | _ => none }
def fnGoWithPairsRow : OpenClaim := { program := "ytpildecpabeanaa", sum := "3a80d1447ff18e0a897397134557c8298ea261dcae780e339bbf3fd4a6f48e49", func := "loop.example/salesbybids/laws.FnGoWithPairs", spec := "fnGoWithPairs", unfollowed := true, recurses := true, apart := false }
def FnGoWithPairsSaid : Prop := fnGoWithPairsRow.holds Try.pinned (OpenSpec.ofChange fnGoWithPairsSpec)

/-- ITS FALSE NEIGHBOUR: 'it returns false'. Refute it at one input. -/
def fnGoWithPairsWrong : ChangeSpec := { name := "fnGoWithPairs", fn := fun _ => fun
  | [d] => { results := [.lit (.bool false)], args := [d] }
  | _ => none }
def FnGoWithPairsWrongFalsely : Prop := fnGoWithPairsRow.holds Try.pinned (OpenSpec.ofChange fnGoWithPairsWrong)

/-- 'laws.FnMostPairPrices': WHATEVER THE INPUT: true; the input reads as it did. -/
def fnMostPairPricesSpec : ChangeSpec := { name := "fnMostPairPrices", fn := fun _ => fun
  | [d] => { results := [.lit (.bool true)], args := [d] }
  | _ => none }
def fnMostPairPricesRow : OpenClaim := { program := "ytpildecpabeanaa", sum := "3a80d1447ff18e0a897397134557c8298ea261dcae780e339bbf3fd4a6f48e49", func := "loop.example/salesbybids/laws.FnMostPairPrices", spec := "fnMostPairPrices", unfollowed := true, recurses := true, apart := false }
def FnMostPairPricesSaid : Prop := fnMostPairPricesRow.holds Try.pinned (OpenSpec.ofChange fnMostPairPricesSpec)

/-- ITS FALSE NEIGHBOUR: 'it returns false'. Refute it at one input. -/
def fnMostPairPricesWrong : ChangeSpec := { name := "fnMostPairPrices", fn := fun _ => fun
  | [d] => { results := [.lit (.bool false)], args := [d] }
  | _ => none }
def FnMostPairPricesWrongFalsely : Prop := fnMostPairPricesRow.holds Try.pinned (OpenSpec.ofChange fnMostPairPricesWrong)

/- THE SECOND FORM. 'bulk': how many values and letters a reading holds, each counted each time it is reached (what is shared counts as often as it is met; a slice's spare places count too). A statement '..UptoSaid' is the law's where the arguments, and the package variables that the reading takes, are together of bulk at most 1048576: NARROWER than '..Said'. Prove '..Said' where nothing that the law and all that it calls make is longer than what came in: it says more and counts as full. Else prove '..UptoSaid'. A law counts once. -/
mutual
def uptoBulk {H : Type} : DataW H → Nat
  | .lit (.string bytes) => bytes.length + 1
  | .lit _ => 1
  | .nil => 1
  | .ptr d => uptoBulk d + 1
  | .slice elems spare => uptoBulkAll elems + uptoBulkAll spare + 1
  | .agg parts => uptoBulkAll parts + 1
  | .iface _ d => uptoBulk d + 1
  | .map entries => uptoBulkEntries entries + 1
  | .held _ => 1
def uptoBulkAll {H : Type} : List (DataW H) → Nat
  | [] => 0
  | d :: r => uptoBulk d + uptoBulkAll r
def uptoBulkEntries {H : Type} : List (Lit × DataW H) → Nat
  | [] => 0
  | x :: r => uptoBulkEntry x + uptoBulkEntries r
def uptoBulkEntry {H : Type} : Lit × DataW H → Nat
  | (.string bytes, d) => bytes.length + uptoBulk d + 1
  | (_, d) => uptoBulk d + 1
 end
def uptoSmall : (H : Type) → List (DataW H) → Bool := fun _ ds => decide (uptoBulkAll ds ≤ 1048576)
def OpenSpec.upto (s : _root_.Go.ChangeSpec) : _root_.Go.OpenSpec := { _root_.Go.OpenSpec.ofChange s with cond := some uptoSmall }

/-- 'laws.FnTradesOf', WHERE WHAT IT READS IS OF BULK AT MOST 1048576: true; the input reads as it did. -/
def fnTradesOfUptoRow : OpenClaim := { program := "ytpildecpabeanaa", sum := "3a80d1447ff18e0a897397134557c8298ea261dcae780e339bbf3fd4a6f48e49", func := "loop.example/salesbybids/laws.FnTradesOf", spec := "fnTradesOf", unfollowed := true, recurses := true, apart := false, narrowed := true }
def FnTradesOfUptoSaid : Prop := fnTradesOfUptoRow.holds Try.pinned (OpenSpec.upto fnTradesOfSpec)

/-- 'laws.FnTradeRange', WHERE WHAT IT READS IS OF BULK AT MOST 1048576: true; the input reads as it did. -/
def fnTradeRangeUptoRow : OpenClaim := { program := "ytpildecpabeanaa", sum := "3a80d1447ff18e0a897397134557c8298ea261dcae780e339bbf3fd4a6f48e49", func := "loop.example/salesbybids/laws.FnTradeRange", spec := "fnTradeRange", unfollowed := true, recurses := true, apart := false, narrowed := true }
def FnTradeRangeUptoSaid : Prop := fnTradeRangeUptoRow.holds Try.pinned (OpenSpec.upto fnTradeRangeSpec)

/-- 'laws.FnTradeLess', WHERE WHAT IT READS IS OF BULK AT MOST 1048576: true; the input reads as it did. -/
def fnTradeLessUptoRow : OpenClaim := { program := "ytpildecpabeanaa", sum := "3a80d1447ff18e0a897397134557c8298ea261dcae780e339bbf3fd4a6f48e49", func := "loop.example/salesbybids/laws.FnTradeLess", spec := "fnTradeLess", unfollowed := true, recurses := true, apart := false, narrowed := true }
def FnTradeLessUptoSaid : Prop := fnTradeLessUptoRow.holds Try.pinned (OpenSpec.upto fnTradeLessSpec)

/-- 'laws.FnTradeGain', WHERE WHAT IT READS IS OF BULK AT MOST 1048576: true; the input reads as it did. -/
def fnTradeGainUptoRow : OpenClaim := { program := "ytpildecpabeanaa", sum := "3a80d1447ff18e0a897397134557c8298ea261dcae780e339bbf3fd4a6f48e49", func := "loop.example/salesbybids/laws.FnTradeGain", spec := "fnTradeGain", unfollowed := true, recurses := true, apart := false, narrowed := true }
def FnTradeGainUptoSaid : Prop := fnTradeGainUptoRow.holds Try.pinned (OpenSpec.upto fnTradeGainSpec)

/-- 'laws.FnSellersTellTruth', WHERE WHAT IT READS IS OF BULK AT MOST 1048576: true; the input reads as it did. -/
def fnSellersTellTruthUptoRow : OpenClaim := { program := "ytpildecpabeanaa", sum := "3a80d1447ff18e0a897397134557c8298ea261dcae780e339bbf3fd4a6f48e49", func := "loop.example/salesbybids/laws.FnSellersTellTruth", spec := "fnSellersTellTruth", unfollowed := true, recurses := true, apart := false, narrowed := true }
def FnSellersTellTruthUptoSaid : Prop := fnSellersTellTruthUptoRow.holds Try.pinned (OpenSpec.upto fnSellersTellTruthSpec)

/-- 'laws.FnInCore', WHERE WHAT IT READS IS OF BULK AT MOST 1048576: true; the input reads as it did. -/
def fnInCoreUptoRow : OpenClaim := { program := "ytpildecpabeanaa", sum := "3a80d1447ff18e0a897397134557c8298ea261dcae780e339bbf3fd4a6f48e49", func := "loop.example/salesbybids/laws.FnInCore", spec := "fnInCore", unfollowed := true, recurses := true, apart := false, narrowed := true }
def FnInCoreUptoSaid : Prop := fnInCoreUptoRow.holds Try.pinned (OpenSpec.upto fnInCoreSpec)

/-- 'laws.FnLeastCore', WHERE WHAT IT READS IS OF BULK AT MOST 1048576: true; the input reads as it did. -/
def fnLeastCoreUptoRow : OpenClaim := { program := "ytpildecpabeanaa", sum := "3a80d1447ff18e0a897397134557c8298ea261dcae780e339bbf3fd4a6f48e49", func := "loop.example/salesbybids/laws.FnLeastCore", spec := "fnLeastCore", unfollowed := true, recurses := true, apart := false, narrowed := true }
def FnLeastCoreUptoSaid : Prop := fnLeastCoreUptoRow.holds Try.pinned (OpenSpec.upto fnLeastCoreSpec)

/-- 'laws.FnPivotsOfOnes', WHERE WHAT IT READS IS OF BULK AT MOST 1048576: true; the input reads as it did. -/
def fnPivotsOfOnesUptoRow : OpenClaim := { program := "ytpildecpabeanaa", sum := "3a80d1447ff18e0a897397134557c8298ea261dcae780e339bbf3fd4a6f48e49", func := "loop.example/salesbybids/laws.FnPivotsOfOnes", spec := "fnPivotsOfOnes", unfollowed := true, recurses := true, apart := false, narrowed := true }
def FnPivotsOfOnesUptoSaid : Prop := fnPivotsOfOnesUptoRow.holds Try.pinned (OpenSpec.upto fnPivotsOfOnesSpec)

/-- 'laws.FnPairPrices', WHERE WHAT IT READS IS OF BULK AT MOST 1048576: true; the input reads as it did. -/
def fnPairPricesUptoRow : OpenClaim := { program := "ytpildecpabeanaa", sum := "3a80d1447ff18e0a897397134557c8298ea261dcae780e339bbf3fd4a6f48e49", func := "loop.example/salesbybids/laws.FnPairPrices", spec := "fnPairPrices", unfollowed := true, recurses := true, apart := false, narrowed := true }
def FnPairPricesUptoSaid : Prop := fnPairPricesUptoRow.holds Try.pinned (OpenSpec.upto fnPairPricesSpec)

/-- 'laws.FnGoWithPairs', WHERE WHAT IT READS IS OF BULK AT MOST 1048576: true; the input reads as it did. -/
def fnGoWithPairsUptoRow : OpenClaim := { program := "ytpildecpabeanaa", sum := "3a80d1447ff18e0a897397134557c8298ea261dcae780e339bbf3fd4a6f48e49", func := "loop.example/salesbybids/laws.FnGoWithPairs", spec := "fnGoWithPairs", unfollowed := true, recurses := true, apart := false, narrowed := true }
def FnGoWithPairsUptoSaid : Prop := fnGoWithPairsUptoRow.holds Try.pinned (OpenSpec.upto fnGoWithPairsSpec)

/-- 'laws.FnMostPairPrices', WHERE WHAT IT READS IS OF BULK AT MOST 1048576: true; the input reads as it did. -/
def fnMostPairPricesUptoRow : OpenClaim := { program := "ytpildecpabeanaa", sum := "3a80d1447ff18e0a897397134557c8298ea261dcae780e339bbf3fd4a6f48e49", func := "loop.example/salesbybids/laws.FnMostPairPrices", spec := "fnMostPairPrices", unfollowed := true, recurses := true, apart := false, narrowed := true }
def FnMostPairPricesUptoSaid : Prop := fnMostPairPricesUptoRow.holds Try.pinned (OpenSpec.upto fnMostPairPricesSpec)

end Rows
end Go.Proofs.Ytpildecpabeanaa
