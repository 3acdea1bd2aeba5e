/-
  No cell of these rows narrows 'for every input' (looked for: loops, veiled, ifaces, maps, wideKeys, modest, calm, conditions, laid).
  DERIVED. THE GIVEN ROWS OF THIS SEAT. 6 by the template 'for every input the law returns true; each argument reads behind the call as it read before'; 0 by the template 'total and deterministic' (their statements: YtpildecpabeanabTotals.lean).
  GIVEN WITH THE SEED: the statements are not yours to turn. If you find one false, say at which input.
  Laid BY PROGRAM, IN A SANDBOX (cutbox-rows.mjs): the forced cells as the released guide's own fill.sh prints them over the translation 70d129bfdc6c027a… (all of the seat's roots in one cut). By AI agents, Wed Nov 11 2026. No macro, syntax, notation, axiom, sorry.
-/
import Derived.Test.YtpildecpabeanabChecked
import GoSem.Claim
import GoSem.ClaimJoined
import GoSem.ClaimMapViews
import Derived.JoinedTies
import Derived.KernelRfl
namespace Go.Proofs.Ytpildecpabeanab
/- THE CELL 'sum', in the pinned program and in every row, IS THE sha256 OF THE DUMP (.gsa) THAT YtpildecpabeanabProg.lean LOADS. Nothing in Lean hashes anything: it is a label: what it is worth is what the hold of that sum in a sandbox is worth. -/
noncomputable def Try.pinned : Pinned := { name := "ytpildecpabeanab", sum := "70d129bfdc6c027a4fff9c139742f8d24b8d47dbfbd936a88c8b62516f2caeba", checked := Try.checked }
namespace Rows
def none {H : Type} : Left H := { results := [], args := [] }

/-- 'laws.FnExactTradesOf': WHATEVER THE INPUT: true; the input reads as it did. -/
def fnExactTradesOfSpec : ChangeSpec := { name := "fnExactTradesOf", fn := fun _ => fun
  | [d1, d2] => { results := [.lit (.bool true)], args := [d1, d2] }
  | _ => none }
def fnExactTradesOfRow : OpenClaim := { program := "ytpildecpabeanab", sum := "70d129bfdc6c027a4fff9c139742f8d24b8d47dbfbd936a88c8b62516f2caeba", func := "loop.example/salesbybids/laws.FnExactTradesOf", spec := "fnExactTradesOf", unfollowed := true, recurses := true, apart := false }
def FnExactTradesOfSaid : Prop := fnExactTradesOfRow.holds Try.pinned (OpenSpec.ofChange fnExactTradesOfSpec)

/-- ITS FALSE NEIGHBOUR: 'it returns false'. Refute it at one input. -/
def fnExactTradesOfWrong : ChangeSpec := { name := "fnExactTradesOf", fn := fun _ => fun
  | [d1, d2] => { results := [.lit (.bool false)], args := [d1, d2] }
  | _ => none }
def FnExactTradesOfWrongFalsely : Prop := fnExactTradesOfRow.holds Try.pinned (OpenSpec.ofChange fnExactTradesOfWrong)

/-- 'laws.FnExactTradeRange': WHATEVER THE INPUT: true; the input reads as it did. -/
def fnExactTradeRangeSpec : ChangeSpec := { name := "fnExactTradeRange", fn := fun _ => fun
  | [d1, d2] => { results := [.lit (.bool true)], args := [d1, d2] }
  | _ => none }
def fnExactTradeRangeRow : OpenClaim := { program := "ytpildecpabeanab", sum := "70d129bfdc6c027a4fff9c139742f8d24b8d47dbfbd936a88c8b62516f2caeba", func := "loop.example/salesbybids/laws.FnExactTradeRange", spec := "fnExactTradeRange", unfollowed := true, recurses := true, apart := false }
def FnExactTradeRangeSaid : Prop := fnExactTradeRangeRow.holds Try.pinned (OpenSpec.ofChange fnExactTradeRangeSpec)

/-- ITS FALSE NEIGHBOUR: 'it returns false'. Refute it at one input. -/
def fnExactTradeRangeWrong : ChangeSpec := { name := "fnExactTradeRange", fn := fun _ => fun
  | [d1, d2] => { results := [.lit (.bool false)], args := [d1, d2] }
  | _ => none }
def FnExactTradeRangeWrongFalsely : Prop := fnExactTradeRangeRow.holds Try.pinned (OpenSpec.ofChange fnExactTradeRangeWrong)

/-- 'laws.FnExactTradeLess': WHATEVER THE INPUT: true; the input reads as it did. -/
def fnExactTradeLessSpec : ChangeSpec := { name := "fnExactTradeLess", fn := fun _ => fun
  | [d1, d2] => { results := [.lit (.bool true)], args := [d1, d2] }
  | _ => none }
def fnExactTradeLessRow : OpenClaim := { program := "ytpildecpabeanab", sum := "70d129bfdc6c027a4fff9c139742f8d24b8d47dbfbd936a88c8b62516f2caeba", func := "loop.example/salesbybids/laws.FnExactTradeLess", spec := "fnExactTradeLess", unfollowed := true, recurses := true, apart := false }
def FnExactTradeLessSaid : Prop := fnExactTradeLessRow.holds Try.pinned (OpenSpec.ofChange fnExactTradeLessSpec)

/-- ITS FALSE NEIGHBOUR: 'it returns false'. Refute it at one input. -/
def fnExactTradeLessWrong : ChangeSpec := { name := "fnExactTradeLess", fn := fun _ => fun
  | [d1, d2] => { results := [.lit (.bool false)], args := [d1, d2] }
  | _ => none }
def FnExactTradeLessWrongFalsely : Prop := fnExactTradeLessRow.holds Try.pinned (OpenSpec.ofChange fnExactTradeLessWrong)

/-- 'laws.FnExactTradeGain': WHATEVER THE INPUT: true; the input reads as it did. -/
def fnExactTradeGainSpec : ChangeSpec := { name := "fnExactTradeGain", fn := fun _ => fun
  | [d1, d2, d3, d4] => { results := [.lit (.bool true)], args := [d1, d2, d3, d4] }
  | _ => none }
def fnExactTradeGainRow : OpenClaim := { program := "ytpildecpabeanab", sum := "70d129bfdc6c027a4fff9c139742f8d24b8d47dbfbd936a88c8b62516f2caeba", func := "loop.example/salesbybids/laws.FnExactTradeGain", spec := "fnExactTradeGain", unfollowed := true, recurses := true, apart := false }
def FnExactTradeGainSaid : Prop := fnExactTradeGainRow.holds Try.pinned (OpenSpec.ofChange fnExactTradeGainSpec)

/-- ITS FALSE NEIGHBOUR: 'it returns false'. Refute it at one input. -/
def fnExactTradeGainWrong : ChangeSpec := { name := "fnExactTradeGain", fn := fun _ => fun
  | [d1, d2, d3, d4] => { results := [.lit (.bool false)], args := [d1, d2, d3, d4] }
  | _ => none }
def FnExactTradeGainWrongFalsely : Prop := fnExactTradeGainRow.holds Try.pinned (OpenSpec.ofChange fnExactTradeGainWrong)

/-- 'laws.FnExactLeastCore': WHATEVER THE INPUT: true; the input reads as it did. -/
def fnExactLeastCoreSpec : ChangeSpec := { name := "fnExactLeastCore", fn := fun _ => fun
  | [d] => { results := [.lit (.bool true)], args := [d] }
  | _ => none }
def fnExactLeastCoreRow : OpenClaim := { program := "ytpildecpabeanab", sum := "70d129bfdc6c027a4fff9c139742f8d24b8d47dbfbd936a88c8b62516f2caeba", func := "loop.example/salesbybids/laws.FnExactLeastCore", spec := "fnExactLeastCore", unfollowed := true, recurses := true, apart := false }
def FnExactLeastCoreSaid : Prop := fnExactLeastCoreRow.holds Try.pinned (OpenSpec.ofChange fnExactLeastCoreSpec)

/-- ITS FALSE NEIGHBOUR: 'it returns false'. Refute it at one input. -/
def fnExactLeastCoreWrong : ChangeSpec := { name := "fnExactLeastCore", fn := fun _ => fun
  | [d] => { results := [.lit (.bool false)], args := [d] }
  | _ => none }
def FnExactLeastCoreWrongFalsely : Prop := fnExactLeastCoreRow.holds Try.pinned (OpenSpec.ofChange fnExactLeastCoreWrong)

/-- 'laws.FnExactGoWithPairs': WHATEVER THE INPUT: true; the input reads as it did. -/
def fnExactGoWithPairsSpec : ChangeSpec := { name := "fnExactGoWithPairs", fn := fun _ => fun
  | [d1, d2] => { results := [.lit (.bool true)], args := [d1, d2] }
  | _ => none }
def fnExactGoWithPairsRow : OpenClaim := { program := "ytpildecpabeanab", sum := "70d129bfdc6c027a4fff9c139742f8d24b8d47dbfbd936a88c8b62516f2caeba", func := "loop.example/salesbybids/laws.FnExactGoWithPairs", spec := "fnExactGoWithPairs", unfollowed := true, recurses := true, apart := false }
def FnExactGoWithPairsSaid : Prop := fnExactGoWithPairsRow.holds Try.pinned (OpenSpec.ofChange fnExactGoWithPairsSpec)

/-- ITS FALSE NEIGHBOUR: 'it returns false'. Refute it at one input. -/
def fnExactGoWithPairsWrong : ChangeSpec := { name := "fnExactGoWithPairs", fn := fun _ => fun
  | [d1, d2] => { results := [.lit (.bool false)], args := [d1, d2] }
  | _ => none }
def FnExactGoWithPairsWrongFalsely : Prop := fnExactGoWithPairsRow.holds Try.pinned (OpenSpec.ofChange fnExactGoWithPairsWrong)

/- THE SECOND FORM. 'bulk': how many values and letters a reading holds, each counted each time it is reached (what is shared counts as often as it is met; a slice's spare places count too). A statement '..UptoSaid' is the law's where the arguments, and the package variables that the reading takes, are together of bulk at most 1048576: NARROWER than '..Said'. Prove '..Said' where nothing that the law and all that it calls make is longer than what came in: it says more and counts as full. Else prove '..UptoSaid'. A law counts once. -/
mutual
def uptoBulk {H : Type} : DataW H → Nat
  | .lit (.string bytes) => bytes.length + 1
  | .lit _ => 1
  | .nil => 1
  | .ptr d => uptoBulk d + 1
  | .slice elems spare => uptoBulkAll elems + uptoBulkAll spare + 1
  | .agg parts => uptoBulkAll parts + 1
  | .iface _ d => uptoBulk d + 1
  | .map entries => uptoBulkEntries entries + 1
  | .held _ => 1
def uptoBulkAll {H : Type} : List (DataW H) → Nat
  | [] => 0
  | d :: r => uptoBulk d + uptoBulkAll r
def uptoBulkEntries {H : Type} : List (Lit × DataW H) → Nat
  | [] => 0
  | x :: r => uptoBulkEntry x + uptoBulkEntries r
def uptoBulkEntry {H : Type} : Lit × DataW H → Nat
  | (.string bytes, d) => bytes.length + uptoBulk d + 1
  | (_, d) => uptoBulk d + 1
 end
def uptoSmall : (H : Type) → List (DataW H) → Bool := fun _ ds => decide (uptoBulkAll ds ≤ 1048576)
def OpenSpec.upto (s : _root_.Go.ChangeSpec) : _root_.Go.OpenSpec := { _root_.Go.OpenSpec.ofChange s with cond := some uptoSmall }

/-- 'laws.FnExactTradesOf', WHERE WHAT IT READS IS OF BULK AT MOST 1048576: true; the input reads as it did. -/
def fnExactTradesOfUptoRow : OpenClaim := { program := "ytpildecpabeanab", sum := "70d129bfdc6c027a4fff9c139742f8d24b8d47dbfbd936a88c8b62516f2caeba", func := "loop.example/salesbybids/laws.FnExactTradesOf", spec := "fnExactTradesOf", unfollowed := true, recurses := true, apart := false, narrowed := true }
def FnExactTradesOfUptoSaid : Prop := fnExactTradesOfUptoRow.holds Try.pinned (OpenSpec.upto fnExactTradesOfSpec)

/-- 'laws.FnExactTradeRange', WHERE WHAT IT READS IS OF BULK AT MOST 1048576: true; the input reads as it did. -/
def fnExactTradeRangeUptoRow : OpenClaim := { program := "ytpildecpabeanab", sum := "70d129bfdc6c027a4fff9c139742f8d24b8d47dbfbd936a88c8b62516f2caeba", func := "loop.example/salesbybids/laws.FnExactTradeRange", spec := "fnExactTradeRange", unfollowed := true, recurses := true, apart := false, narrowed := true }
def FnExactTradeRangeUptoSaid : Prop := fnExactTradeRangeUptoRow.holds Try.pinned (OpenSpec.upto fnExactTradeRangeSpec)

/-- 'laws.FnExactTradeLess', WHERE WHAT IT READS IS OF BULK AT MOST 1048576: true; the input reads as it did. -/
def fnExactTradeLessUptoRow : OpenClaim := { program := "ytpildecpabeanab", sum := "70d129bfdc6c027a4fff9c139742f8d24b8d47dbfbd936a88c8b62516f2caeba", func := "loop.example/salesbybids/laws.FnExactTradeLess", spec := "fnExactTradeLess", unfollowed := true, recurses := true, apart := false, narrowed := true }
def FnExactTradeLessUptoSaid : Prop := fnExactTradeLessUptoRow.holds Try.pinned (OpenSpec.upto fnExactTradeLessSpec)

/-- 'laws.FnExactTradeGain', WHERE WHAT IT READS IS OF BULK AT MOST 1048576: true; the input reads as it did. -/
def fnExactTradeGainUptoRow : OpenClaim := { program := "ytpildecpabeanab", sum := "70d129bfdc6c027a4fff9c139742f8d24b8d47dbfbd936a88c8b62516f2caeba", func := "loop.example/salesbybids/laws.FnExactTradeGain", spec := "fnExactTradeGain", unfollowed := true, recurses := true, apart := false, narrowed := true }
def FnExactTradeGainUptoSaid : Prop := fnExactTradeGainUptoRow.holds Try.pinned (OpenSpec.upto fnExactTradeGainSpec)

/-- 'laws.FnExactLeastCore', WHERE WHAT IT READS IS OF BULK AT MOST 1048576: true; the input reads as it did. -/
def fnExactLeastCoreUptoRow : OpenClaim := { program := "ytpildecpabeanab", sum := "70d129bfdc6c027a4fff9c139742f8d24b8d47dbfbd936a88c8b62516f2caeba", func := "loop.example/salesbybids/laws.FnExactLeastCore", spec := "fnExactLeastCore", unfollowed := true, recurses := true, apart := false, narrowed := true }
def FnExactLeastCoreUptoSaid : Prop := fnExactLeastCoreUptoRow.holds Try.pinned (OpenSpec.upto fnExactLeastCoreSpec)

/-- 'laws.FnExactGoWithPairs', WHERE WHAT IT READS IS OF BULK AT MOST 1048576: true; the input reads as it did. -/
def fnExactGoWithPairsUptoRow : OpenClaim := { program := "ytpildecpabeanab", sum := "70d129bfdc6c027a4fff9c139742f8d24b8d47dbfbd936a88c8b62516f2caeba", func := "loop.example/salesbybids/laws.FnExactGoWithPairs", spec := "fnExactGoWithPairs", unfollowed := true, recurses := true, apart := false, narrowed := true }
def FnExactGoWithPairsUptoSaid : Prop := fnExactGoWithPairsUptoRow.holds Try.pinned (OpenSpec.upto fnExactGoWithPairsSpec)

end Rows
end Go.Proofs.Ytpildecpabeanab
