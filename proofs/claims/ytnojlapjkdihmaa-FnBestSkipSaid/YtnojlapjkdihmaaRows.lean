/-
  No cell of these rows narrows 'for every input' (looked for: loops, veiled, ifaces, maps, wideKeys, modest, calm, conditions, laid).
  DERIVED. THE GIVEN ROWS OF THIS SEAT. 12 by the template 'for every input the law returns true; each argument reads behind the call as it read before'; 0 by the template 'total and deterministic' (their statements: YtnojlapjkdihmaaTotals.lean).
  GIVEN WITH THE SEED: the statements are not yours to turn. If you find one false, say at which input.
  Laid BY PROGRAM, IN A SANDBOX (cutbox-rows.mjs): the forced cells as the released guide's own fill.sh prints them over the translation a2dcaba9df3108ec… (all of the seat's roots in one cut). By AI agents, Wed Nov 11 2026. No macro, syntax, notation, axiom, sorry.
-/
import Derived.Test.YtnojlapjkdihmaaChecked
import GoSem.Claim
import GoSem.ClaimJoined
import GoSem.ClaimMapViews
import Derived.JoinedTies
import Derived.KernelRfl
namespace Go.Proofs.Ytnojlapjkdihmaa
/- THE CELL 'sum', in the pinned program and in every row, IS THE sha256 OF THE DUMP (.gsa) THAT YtnojlapjkdihmaaProg.lean LOADS. Nothing in Lean hashes anything: it is a label: what it is worth is what the hold of that sum in a sandbox is worth. -/
noncomputable def Try.pinned : Pinned := { name := "ytnojlapjkdihmaa", sum := "a2dcaba9df3108ec3b87d9273e6024a900771c09b8bb121ec1625c7ab561e17b", checked := Try.checked }
namespace Rows
def none {H : Type} : Left H := { results := [], args := [] }

/-- 'laws.FnGoWithPairs': WHATEVER THE INPUT: true; the input reads as it did. -/
def fnGoWithPairsSpec : ChangeSpec := { name := "fnGoWithPairs", fn := fun _ => fun
  | [d] => { results := [.lit (.bool true)], args := [d] }
  | _ => none }
def fnGoWithPairsRow : OpenClaim := { program := "ytnojlapjkdihmaa", sum := "a2dcaba9df3108ec3b87d9273e6024a900771c09b8bb121ec1625c7ab561e17b", func := "loop.example/salesbybids/laws.FnGoWithPairs", spec := "fnGoWithPairs", unfollowed := true, recurses := true, apart := false }
def FnGoWithPairsSaid : Prop := fnGoWithPairsRow.holds Try.pinned (OpenSpec.ofChange fnGoWithPairsSpec)

/-- ITS FALSE NEIGHBOUR: 'it returns false'. Refute it at one input. -/
def fnGoWithPairsWrong : ChangeSpec := { name := "fnGoWithPairs", fn := fun _ => fun
  | [d] => { results := [.lit (.bool false)], args := [d] }
  | _ => none }
def FnGoWithPairsWrongFalsely : Prop := fnGoWithPairsRow.holds Try.pinned (OpenSpec.ofChange fnGoWithPairsWrong)

/-- 'laws.FnInCore': WHATEVER THE INPUT: true; the input reads as it did. -/
def fnInCoreSpec : ChangeSpec := { name := "fnInCore", fn := fun _ => fun
  | [d] => { results := [.lit (.bool true)], args := [d] }
  | _ => none }
def fnInCoreRow : OpenClaim := { program := "ytnojlapjkdihmaa", sum := "a2dcaba9df3108ec3b87d9273e6024a900771c09b8bb121ec1625c7ab561e17b", func := "loop.example/salesbybids/laws.FnInCore", spec := "fnInCore", unfollowed := true, recurses := true, apart := false }
def FnInCoreSaid : Prop := fnInCoreRow.holds Try.pinned (OpenSpec.ofChange fnInCoreSpec)

/-- ITS FALSE NEIGHBOUR: 'it returns false'. Refute it at one input. -/
def fnInCoreWrong : ChangeSpec := { name := "fnInCore", fn := fun _ => fun
  | [d] => { results := [.lit (.bool false)], args := [d] }
  | _ => none }
def FnInCoreWrongFalsely : Prop := fnInCoreRow.holds Try.pinned (OpenSpec.ofChange fnInCoreWrong)

/-- 'laws.FnValidStages': WHATEVER THE INPUT: true; the input reads as it did. -/
def fnValidStagesSpec : ChangeSpec := { name := "fnValidStages", fn := fun _ => fun
  | [d] => { results := [.lit (.bool true)], args := [d] }
  | _ => none }
def fnValidStagesRow : OpenClaim := { program := "ytnojlapjkdihmaa", sum := "a2dcaba9df3108ec3b87d9273e6024a900771c09b8bb121ec1625c7ab561e17b", func := "loop.example/salesbybids/laws.FnValidStages", spec := "fnValidStages", unfollowed := true, recurses := true, apart := false }
def FnValidStagesSaid : Prop := fnValidStagesRow.holds Try.pinned (OpenSpec.ofChange fnValidStagesSpec)

/-- ITS FALSE NEIGHBOUR: 'it returns false'. Refute it at one input. -/
def fnValidStagesWrong : ChangeSpec := { name := "fnValidStages", fn := fun _ => fun
  | [d] => { results := [.lit (.bool false)], args := [d] }
  | _ => none }
def FnValidStagesWrongFalsely : Prop := fnValidStagesRow.holds Try.pinned (OpenSpec.ofChange fnValidStagesWrong)

/-- 'laws.FnBestSeen': WHATEVER THE INPUT: true; the input reads as it did. -/
def fnBestSeenSpec : ChangeSpec := { name := "fnBestSeen", fn := fun _ => fun
  | [d] => { results := [.lit (.bool true)], args := [d] }
  | _ => none }
def fnBestSeenRow : OpenClaim := { program := "ytnojlapjkdihmaa", sum := "a2dcaba9df3108ec3b87d9273e6024a900771c09b8bb121ec1625c7ab561e17b", func := "loop.example/salesbybids/laws.FnBestSeen", spec := "fnBestSeen", unfollowed := true, recurses := true, apart := false }
def FnBestSeenSaid : Prop := fnBestSeenRow.holds Try.pinned (OpenSpec.ofChange fnBestSeenSpec)

/-- ITS FALSE NEIGHBOUR: 'it returns false'. Refute it at one input. -/
def fnBestSeenWrong : ChangeSpec := { name := "fnBestSeen", fn := fun _ => fun
  | [d] => { results := [.lit (.bool false)], args := [d] }
  | _ => none }
def FnBestSeenWrongFalsely : Prop := fnBestSeenRow.holds Try.pinned (OpenSpec.ofChange fnBestSeenWrong)

/-- 'laws.FnBestStop': WHATEVER THE INPUT: true; the input reads as it did. -/
def fnBestStopSpec : ChangeSpec := { name := "fnBestStop", fn := fun _ => fun
  | [d] => { results := [.lit (.bool true)], args := [d] }
  | _ => none }
def fnBestStopRow : OpenClaim := { program := "ytnojlapjkdihmaa", sum := "a2dcaba9df3108ec3b87d9273e6024a900771c09b8bb121ec1625c7ab561e17b", func := "loop.example/salesbybids/laws.FnBestStop", spec := "fnBestStop", unfollowed := true, recurses := true, apart := false }
def FnBestStopSaid : Prop := fnBestStopRow.holds Try.pinned (OpenSpec.ofChange fnBestStopSpec)

/-- ITS FALSE NEIGHBOUR: 'it returns false'. Refute it at one input. -/
def fnBestStopWrong : ChangeSpec := { name := "fnBestStop", fn := fun _ => fun
  | [d] => { results := [.lit (.bool false)], args := [d] }
  | _ => none }
def FnBestStopWrongFalsely : Prop := fnBestStopRow.holds Try.pinned (OpenSpec.ofChange fnBestStopWrong)

/-- 'laws.FnStopAt': WHATEVER THE INPUT: true; the input reads as it did. -/
def fnStopAtSpec : ChangeSpec := { name := "fnStopAt", fn := fun _ => fun
  | [d] => { results := [.lit (.bool true)], args := [d] }
  | _ => none }
def fnStopAtRow : OpenClaim := { program := "ytnojlapjkdihmaa", sum := "a2dcaba9df3108ec3b87d9273e6024a900771c09b8bb121ec1625c7ab561e17b", func := "loop.example/salesbybids/laws.FnStopAt", spec := "fnStopAt", unfollowed := true, recurses := true, apart := false }
def FnStopAtSaid : Prop := fnStopAtRow.holds Try.pinned (OpenSpec.ofChange fnStopAtSpec)

/-- ITS FALSE NEIGHBOUR: 'it returns false'. Refute it at one input. -/
def fnStopAtWrong : ChangeSpec := { name := "fnStopAt", fn := fun _ => fun
  | [d] => { results := [.lit (.bool false)], args := [d] }
  | _ => none }
def FnStopAtWrongFalsely : Prop := fnStopAtRow.holds Try.pinned (OpenSpec.ofChange fnStopAtWrong)

/-- 'laws.FnHalfStop': WHATEVER THE INPUT: true; the input reads as it did. -/
def fnHalfStopSpec : ChangeSpec := { name := "fnHalfStop", fn := fun _ => fun
  | [d] => { results := [.lit (.bool true)], args := [d] }
  | _ => none }
def fnHalfStopRow : OpenClaim := { program := "ytnojlapjkdihmaa", sum := "a2dcaba9df3108ec3b87d9273e6024a900771c09b8bb121ec1625c7ab561e17b", func := "loop.example/salesbybids/laws.FnHalfStop", spec := "fnHalfStop", unfollowed := true, recurses := true, apart := false }
def FnHalfStopSaid : Prop := fnHalfStopRow.holds Try.pinned (OpenSpec.ofChange fnHalfStopSpec)

/-- ITS FALSE NEIGHBOUR: 'it returns false'. Refute it at one input. -/
def fnHalfStopWrong : ChangeSpec := { name := "fnHalfStop", fn := fun _ => fun
  | [d] => { results := [.lit (.bool false)], args := [d] }
  | _ => none }
def FnHalfStopWrongFalsely : Prop := fnHalfStopRow.holds Try.pinned (OpenSpec.ofChange fnHalfStopWrong)

/-- 'laws.FnSkipWins': WHATEVER THE INPUT: true; the input reads as it did. -/
def fnSkipWinsSpec : ChangeSpec := { name := "fnSkipWins", fn := fun _ => fun
  | [d] => { results := [.lit (.bool true)], args := [d] }
  | _ => none }
def fnSkipWinsRow : OpenClaim := { program := "ytnojlapjkdihmaa", sum := "a2dcaba9df3108ec3b87d9273e6024a900771c09b8bb121ec1625c7ab561e17b", func := "loop.example/salesbybids/laws.FnSkipWins", spec := "fnSkipWins", unfollowed := true, recurses := true, apart := false }
def FnSkipWinsSaid : Prop := fnSkipWinsRow.holds Try.pinned (OpenSpec.ofChange fnSkipWinsSpec)

/-- ITS FALSE NEIGHBOUR: 'it returns false'. Refute it at one input. -/
def fnSkipWinsWrong : ChangeSpec := { name := "fnSkipWins", fn := fun _ => fun
  | [d] => { results := [.lit (.bool false)], args := [d] }
  | _ => none }
def FnSkipWinsWrongFalsely : Prop := fnSkipWinsRow.holds Try.pinned (OpenSpec.ofChange fnSkipWinsWrong)

/-- 'laws.FnSkipTried': WHATEVER THE INPUT: true; the input reads as it did. -/
def fnSkipTriedSpec : ChangeSpec := { name := "fnSkipTried", fn := fun _ => fun
  | [d] => { results := [.lit (.bool true)], args := [d] }
  | _ => none }
def fnSkipTriedRow : OpenClaim := { program := "ytnojlapjkdihmaa", sum := "a2dcaba9df3108ec3b87d9273e6024a900771c09b8bb121ec1625c7ab561e17b", func := "loop.example/salesbybids/laws.FnSkipTried", spec := "fnSkipTried", unfollowed := true, recurses := true, apart := false }
def FnSkipTriedSaid : Prop := fnSkipTriedRow.holds Try.pinned (OpenSpec.ofChange fnSkipTriedSpec)

/-- ITS FALSE NEIGHBOUR: 'it returns false'. Refute it at one input. -/
def fnSkipTriedWrong : ChangeSpec := { name := "fnSkipTried", fn := fun _ => fun
  | [d] => { results := [.lit (.bool false)], args := [d] }
  | _ => none }
def FnSkipTriedWrongFalsely : Prop := fnSkipTriedRow.holds Try.pinned (OpenSpec.ofChange fnSkipTriedWrong)

/-- 'laws.FnBestSkip': WHATEVER THE INPUT: true; the input reads as it did. -/
def fnBestSkipSpec : ChangeSpec := { name := "fnBestSkip", fn := fun _ => fun
  | [d] => { results := [.lit (.bool true)], args := [d] }
  | _ => none }
def fnBestSkipRow : OpenClaim := { program := "ytnojlapjkdihmaa", sum := "a2dcaba9df3108ec3b87d9273e6024a900771c09b8bb121ec1625c7ab561e17b", func := "loop.example/salesbybids/laws.FnBestSkip", spec := "fnBestSkip", apart := false }
def FnBestSkipSaid : Prop := fnBestSkipRow.holds Try.pinned (OpenSpec.ofChange fnBestSkipSpec)

/-- ITS FALSE NEIGHBOUR: 'it returns false'. Refute it at one input. -/
def fnBestSkipWrong : ChangeSpec := { name := "fnBestSkip", fn := fun _ => fun
  | [d] => { results := [.lit (.bool false)], args := [d] }
  | _ => none }
def FnBestSkipWrongFalsely : Prop := fnBestSkipRow.holds Try.pinned (OpenSpec.ofChange fnBestSkipWrong)

/-- 'laws.FnPivotsOfOnes': WHATEVER THE INPUT: true; the input reads as it did. -/
def fnPivotsOfOnesSpec : ChangeSpec := { name := "fnPivotsOfOnes", fn := fun _ => fun
  | [d] => { results := [.lit (.bool true)], args := [d] }
  | _ => none }
def fnPivotsOfOnesRow : OpenClaim := { program := "ytnojlapjkdihmaa", sum := "a2dcaba9df3108ec3b87d9273e6024a900771c09b8bb121ec1625c7ab561e17b", func := "loop.example/salesbybids/laws.FnPivotsOfOnes", spec := "fnPivotsOfOnes", unfollowed := true, recurses := true, apart := false }
def FnPivotsOfOnesSaid : Prop := fnPivotsOfOnesRow.holds Try.pinned (OpenSpec.ofChange fnPivotsOfOnesSpec)

/-- ITS FALSE NEIGHBOUR: 'it returns false'. Refute it at one input. -/
def fnPivotsOfOnesWrong : ChangeSpec := { name := "fnPivotsOfOnes", fn := fun _ => fun
  | [d] => { results := [.lit (.bool false)], args := [d] }
  | _ => none }
def FnPivotsOfOnesWrongFalsely : Prop := fnPivotsOfOnesRow.holds Try.pinned (OpenSpec.ofChange fnPivotsOfOnesWrong)

/-- 'laws.FnAnyOrderIsSure': WHATEVER THE INPUT: true; the input reads as it did. -/
def fnAnyOrderIsSureSpec : ChangeSpec := { name := "fnAnyOrderIsSure", fn := fun _ => fun
  | [d] => { results := [.lit (.bool true)], args := [d] }
  | _ => none }
def fnAnyOrderIsSureRow : OpenClaim := { program := "ytnojlapjkdihmaa", sum := "a2dcaba9df3108ec3b87d9273e6024a900771c09b8bb121ec1625c7ab561e17b", func := "loop.example/salesbybids/laws.FnAnyOrderIsSure", spec := "fnAnyOrderIsSure", unfollowed := true, recurses := true, apart := false }
def FnAnyOrderIsSureSaid : Prop := fnAnyOrderIsSureRow.holds Try.pinned (OpenSpec.ofChange fnAnyOrderIsSureSpec)

/-- ITS FALSE NEIGHBOUR: 'it returns false'. Refute it at one input. -/
def fnAnyOrderIsSureWrong : ChangeSpec := { name := "fnAnyOrderIsSure", fn := fun _ => fun
  | [d] => { results := [.lit (.bool false)], args := [d] }
  | _ => none }
def FnAnyOrderIsSureWrongFalsely : Prop := fnAnyOrderIsSureRow.holds Try.pinned (OpenSpec.ofChange fnAnyOrderIsSureWrong)

/- THE SECOND FORM. 'bulk': how many values and letters a reading holds, each counted each time it is reached (what is shared counts as often as it is met; a slice's spare places count too). A statement '..UptoSaid' is the law's where the arguments, and the package variables that the reading takes, are together of bulk at most 1048576: NARROWER than '..Said'. Prove '..Said' where nothing that the law and all that it calls make is longer than what came in: it says more and counts as full. Else prove '..UptoSaid'. A law counts once. -/
mutual
def uptoBulk {H : Type} : DataW H → Nat
  | .lit (.string bytes) => bytes.length + 1
  | .lit _ => 1
  | .nil => 1
  | .ptr d => uptoBulk d + 1
  | .slice elems spare => uptoBulkAll elems + uptoBulkAll spare + 1
  | .agg parts => uptoBulkAll parts + 1
  | .iface _ d => uptoBulk d + 1
  | .map entries => uptoBulkEntries entries + 1
  | .held _ => 1
def uptoBulkAll {H : Type} : List (DataW H) → Nat
  | [] => 0
  | d :: r => uptoBulk d + uptoBulkAll r
def uptoBulkEntries {H : Type} : List (Lit × DataW H) → Nat
  | [] => 0
  | x :: r => uptoBulkEntry x + uptoBulkEntries r
def uptoBulkEntry {H : Type} : Lit × DataW H → Nat
  | (.string bytes, d) => bytes.length + uptoBulk d + 1
  | (_, d) => uptoBulk d + 1
 end
def uptoSmall : (H : Type) → List (DataW H) → Bool := fun _ ds => decide (uptoBulkAll ds ≤ 1048576)
def OpenSpec.upto (s : _root_.Go.ChangeSpec) : _root_.Go.OpenSpec := { _root_.Go.OpenSpec.ofChange s with cond := some uptoSmall }

/-- 'laws.FnGoWithPairs', WHERE WHAT IT READS IS OF BULK AT MOST 1048576: true; the input reads as it did. -/
def fnGoWithPairsUptoRow : OpenClaim := { program := "ytnojlapjkdihmaa", sum := "a2dcaba9df3108ec3b87d9273e6024a900771c09b8bb121ec1625c7ab561e17b", func := "loop.example/salesbybids/laws.FnGoWithPairs", spec := "fnGoWithPairs", unfollowed := true, recurses := true, apart := false, narrowed := true }
def FnGoWithPairsUptoSaid : Prop := fnGoWithPairsUptoRow.holds Try.pinned (OpenSpec.upto fnGoWithPairsSpec)

/-- 'laws.FnInCore', WHERE WHAT IT READS IS OF BULK AT MOST 1048576: true; the input reads as it did. -/
def fnInCoreUptoRow : OpenClaim := { program := "ytnojlapjkdihmaa", sum := "a2dcaba9df3108ec3b87d9273e6024a900771c09b8bb121ec1625c7ab561e17b", func := "loop.example/salesbybids/laws.FnInCore", spec := "fnInCore", unfollowed := true, recurses := true, apart := false, narrowed := true }
def FnInCoreUptoSaid : Prop := fnInCoreUptoRow.holds Try.pinned (OpenSpec.upto fnInCoreSpec)

/-- 'laws.FnValidStages', WHERE WHAT IT READS IS OF BULK AT MOST 1048576: true; the input reads as it did. -/
def fnValidStagesUptoRow : OpenClaim := { program := "ytnojlapjkdihmaa", sum := "a2dcaba9df3108ec3b87d9273e6024a900771c09b8bb121ec1625c7ab561e17b", func := "loop.example/salesbybids/laws.FnValidStages", spec := "fnValidStages", unfollowed := true, recurses := true, apart := false, narrowed := true }
def FnValidStagesUptoSaid : Prop := fnValidStagesUptoRow.holds Try.pinned (OpenSpec.upto fnValidStagesSpec)

/-- 'laws.FnBestSeen', WHERE WHAT IT READS IS OF BULK AT MOST 1048576: true; the input reads as it did. -/
def fnBestSeenUptoRow : OpenClaim := { program := "ytnojlapjkdihmaa", sum := "a2dcaba9df3108ec3b87d9273e6024a900771c09b8bb121ec1625c7ab561e17b", func := "loop.example/salesbybids/laws.FnBestSeen", spec := "fnBestSeen", unfollowed := true, recurses := true, apart := false, narrowed := true }
def FnBestSeenUptoSaid : Prop := fnBestSeenUptoRow.holds Try.pinned (OpenSpec.upto fnBestSeenSpec)

/-- 'laws.FnBestStop', WHERE WHAT IT READS IS OF BULK AT MOST 1048576: true; the input reads as it did. -/
def fnBestStopUptoRow : OpenClaim := { program := "ytnojlapjkdihmaa", sum := "a2dcaba9df3108ec3b87d9273e6024a900771c09b8bb121ec1625c7ab561e17b", func := "loop.example/salesbybids/laws.FnBestStop", spec := "fnBestStop", unfollowed := true, recurses := true, apart := false, narrowed := true }
def FnBestStopUptoSaid : Prop := fnBestStopUptoRow.holds Try.pinned (OpenSpec.upto fnBestStopSpec)

/-- 'laws.FnStopAt', WHERE WHAT IT READS IS OF BULK AT MOST 1048576: true; the input reads as it did. -/
def fnStopAtUptoRow : OpenClaim := { program := "ytnojlapjkdihmaa", sum := "a2dcaba9df3108ec3b87d9273e6024a900771c09b8bb121ec1625c7ab561e17b", func := "loop.example/salesbybids/laws.FnStopAt", spec := "fnStopAt", unfollowed := true, recurses := true, apart := false, narrowed := true }
def FnStopAtUptoSaid : Prop := fnStopAtUptoRow.holds Try.pinned (OpenSpec.upto fnStopAtSpec)

/-- 'laws.FnHalfStop', WHERE WHAT IT READS IS OF BULK AT MOST 1048576: true; the input reads as it did. -/
def fnHalfStopUptoRow : OpenClaim := { program := "ytnojlapjkdihmaa", sum := "a2dcaba9df3108ec3b87d9273e6024a900771c09b8bb121ec1625c7ab561e17b", func := "loop.example/salesbybids/laws.FnHalfStop", spec := "fnHalfStop", unfollowed := true, recurses := true, apart := false, narrowed := true }
def FnHalfStopUptoSaid : Prop := fnHalfStopUptoRow.holds Try.pinned (OpenSpec.upto fnHalfStopSpec)

/-- 'laws.FnSkipWins', WHERE WHAT IT READS IS OF BULK AT MOST 1048576: true; the input reads as it did. -/
def fnSkipWinsUptoRow : OpenClaim := { program := "ytnojlapjkdihmaa", sum := "a2dcaba9df3108ec3b87d9273e6024a900771c09b8bb121ec1625c7ab561e17b", func := "loop.example/salesbybids/laws.FnSkipWins", spec := "fnSkipWins", unfollowed := true, recurses := true, apart := false, narrowed := true }
def FnSkipWinsUptoSaid : Prop := fnSkipWinsUptoRow.holds Try.pinned (OpenSpec.upto fnSkipWinsSpec)

/-- 'laws.FnSkipTried', WHERE WHAT IT READS IS OF BULK AT MOST 1048576: true; the input reads as it did. -/
def fnSkipTriedUptoRow : OpenClaim := { program := "ytnojlapjkdihmaa", sum := "a2dcaba9df3108ec3b87d9273e6024a900771c09b8bb121ec1625c7ab561e17b", func := "loop.example/salesbybids/laws.FnSkipTried", spec := "fnSkipTried", unfollowed := true, recurses := true, apart := false, narrowed := true }
def FnSkipTriedUptoSaid : Prop := fnSkipTriedUptoRow.holds Try.pinned (OpenSpec.upto fnSkipTriedSpec)

/-- 'laws.FnBestSkip', WHERE WHAT IT READS IS OF BULK AT MOST 1048576: true; the input reads as it did. -/
def fnBestSkipUptoRow : OpenClaim := { program := "ytnojlapjkdihmaa", sum := "a2dcaba9df3108ec3b87d9273e6024a900771c09b8bb121ec1625c7ab561e17b", func := "loop.example/salesbybids/laws.FnBestSkip", spec := "fnBestSkip", apart := false, narrowed := true }
def FnBestSkipUptoSaid : Prop := fnBestSkipUptoRow.holds Try.pinned (OpenSpec.upto fnBestSkipSpec)

/-- 'laws.FnPivotsOfOnes', WHERE WHAT IT READS IS OF BULK AT MOST 1048576: true; the input reads as it did. -/
def fnPivotsOfOnesUptoRow : OpenClaim := { program := "ytnojlapjkdihmaa", sum := "a2dcaba9df3108ec3b87d9273e6024a900771c09b8bb121ec1625c7ab561e17b", func := "loop.example/salesbybids/laws.FnPivotsOfOnes", spec := "fnPivotsOfOnes", unfollowed := true, recurses := true, apart := false, narrowed := true }
def FnPivotsOfOnesUptoSaid : Prop := fnPivotsOfOnesUptoRow.holds Try.pinned (OpenSpec.upto fnPivotsOfOnesSpec)

/-- 'laws.FnAnyOrderIsSure', WHERE WHAT IT READS IS OF BULK AT MOST 1048576: true; the input reads as it did. -/
def fnAnyOrderIsSureUptoRow : OpenClaim := { program := "ytnojlapjkdihmaa", sum := "a2dcaba9df3108ec3b87d9273e6024a900771c09b8bb121ec1625c7ab561e17b", func := "loop.example/salesbybids/laws.FnAnyOrderIsSure", spec := "fnAnyOrderIsSure", unfollowed := true, recurses := true, apart := false, narrowed := true }
def FnAnyOrderIsSureUptoSaid : Prop := fnAnyOrderIsSureUptoRow.holds Try.pinned (OpenSpec.upto fnAnyOrderIsSureSpec)

end Rows
end Go.Proofs.Ytnojlapjkdihmaa
