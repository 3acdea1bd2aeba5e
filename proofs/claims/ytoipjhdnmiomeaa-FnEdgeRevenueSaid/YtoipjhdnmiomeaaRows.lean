/-
  No cell of these rows narrows 'for every input' (looked for: loops, veiled, ifaces, maps, wideKeys, modest, calm, conditions, laid).
  DERIVED. THE GIVEN ROWS OF THIS SEAT. 12 by the template 'for every input the law returns true; each argument reads behind the call as it read before'; 0 by the template 'total and deterministic' (their statements: YtoipjhdnmiomeaaTotals.lean).
  GIVEN WITH THE SEED: the statements are not yours to turn. If you find one false, say at which input.
  Laid BY PROGRAM, IN A SANDBOX (cutbox-rows.mjs): the forced cells as the released guide's own fill.sh prints them over the translation 86c56d89686a8f3c… (all of the seat's roots in one cut). By AI agents, Wed Nov 11 2026. No macro, syntax, notation, axiom, sorry.
-/
import Derived.Test.YtoipjhdnmiomeaaChecked
import GoSem.Claim
import GoSem.ClaimJoined
import GoSem.ClaimMapViews
import Derived.JoinedTies
import Derived.KernelRfl
namespace Go.Proofs.Ytoipjhdnmiomeaa
/- THE CELL 'sum', in the pinned program and in every row, IS THE sha256 OF THE DUMP (.gsa) THAT YtoipjhdnmiomeaaProg.lean LOADS. Nothing in Lean hashes anything: it is a label: what it is worth is what the hold of that sum in a sandbox is worth. -/
noncomputable def Try.pinned : Pinned := { name := "ytoipjhdnmiomeaa", sum := "86c56d89686a8f3c5aa9097936a0b56ff28a1917a2f7092664a0ce79b46bc125", checked := Try.checked }
namespace Rows
def none {H : Type} : Left H := { results := [], args := [] }

/-- 'laws.FnRevenueAt': WHATEVER THE INPUT: true; the input reads as it did. -/
def fnRevenueAtSpec : ChangeSpec := { name := "fnRevenueAt", fn := fun _ => fun
  | [d] => { results := [.lit (.bool true)], args := [d] }
  | _ => none }
def fnRevenueAtRow : OpenClaim := { program := "ytoipjhdnmiomeaa", sum := "86c56d89686a8f3c5aa9097936a0b56ff28a1917a2f7092664a0ce79b46bc125", func := "loop.example/salesbybids/laws.FnRevenueAt", spec := "fnRevenueAt", unfollowed := true, recurses := true, apart := false }
def FnRevenueAtSaid : Prop := fnRevenueAtRow.holds Try.pinned (OpenSpec.ofChange fnRevenueAtSpec)

/-- ITS FALSE NEIGHBOUR: 'it returns false'. Refute it at one input. -/
def fnRevenueAtWrong : ChangeSpec := { name := "fnRevenueAt", fn := fun _ => fun
  | [d] => { results := [.lit (.bool false)], args := [d] }
  | _ => none }
def FnRevenueAtWrongFalsely : Prop := fnRevenueAtRow.holds Try.pinned (OpenSpec.ofChange fnRevenueAtWrong)

/-- 'laws.FnBestPrice': WHATEVER THE INPUT: true; the input reads as it did. -/
def fnBestPriceSpec : ChangeSpec := { name := "fnBestPrice", fn := fun _ => fun
  | [d] => { results := [.lit (.bool true)], args := [d] }
  | _ => none }
def fnBestPriceRow : OpenClaim := { program := "ytoipjhdnmiomeaa", sum := "86c56d89686a8f3c5aa9097936a0b56ff28a1917a2f7092664a0ce79b46bc125", func := "loop.example/salesbybids/laws.FnBestPrice", spec := "fnBestPrice", unfollowed := true, recurses := true, apart := false }
def FnBestPriceSaid : Prop := fnBestPriceRow.holds Try.pinned (OpenSpec.ofChange fnBestPriceSpec)

/-- ITS FALSE NEIGHBOUR: 'it returns false'. Refute it at one input. -/
def fnBestPriceWrong : ChangeSpec := { name := "fnBestPrice", fn := fun _ => fun
  | [d] => { results := [.lit (.bool false)], args := [d] }
  | _ => none }
def FnBestPriceWrongFalsely : Prop := fnBestPriceRow.holds Try.pinned (OpenSpec.ofChange fnBestPriceWrong)

/-- 'laws.FnVirtualOf': WHATEVER THE INPUT: true; the input reads as it did. -/
def fnVirtualOfSpec : ChangeSpec := { name := "fnVirtualOf", fn := fun _ => fun
  | [d] => { results := [.lit (.bool true)], args := [d] }
  | _ => none }
def fnVirtualOfRow : OpenClaim := { program := "ytoipjhdnmiomeaa", sum := "86c56d89686a8f3c5aa9097936a0b56ff28a1917a2f7092664a0ce79b46bc125", func := "loop.example/salesbybids/laws.FnVirtualOf", spec := "fnVirtualOf", unfollowed := true, recurses := true, apart := false }
def FnVirtualOfSaid : Prop := fnVirtualOfRow.holds Try.pinned (OpenSpec.ofChange fnVirtualOfSpec)

/-- ITS FALSE NEIGHBOUR: 'it returns false'. Refute it at one input. -/
def fnVirtualOfWrong : ChangeSpec := { name := "fnVirtualOf", fn := fun _ => fun
  | [d] => { results := [.lit (.bool false)], args := [d] }
  | _ => none }
def FnVirtualOfWrongFalsely : Prop := fnVirtualOfRow.holds Try.pinned (OpenSpec.ofChange fnVirtualOfWrong)

/-- 'laws.FnIronedOf': WHATEVER THE INPUT: true; the input reads as it did. -/
def fnIronedOfSpec : ChangeSpec := { name := "fnIronedOf", fn := fun _ => fun
  | [d] => { results := [.lit (.bool true)], args := [d] }
  | _ => none }
def fnIronedOfRow : OpenClaim := { program := "ytoipjhdnmiomeaa", sum := "86c56d89686a8f3c5aa9097936a0b56ff28a1917a2f7092664a0ce79b46bc125", func := "loop.example/salesbybids/laws.FnIronedOf", spec := "fnIronedOf", unfollowed := true, recurses := true, apart := false }
def FnIronedOfSaid : Prop := fnIronedOfRow.holds Try.pinned (OpenSpec.ofChange fnIronedOfSpec)

/-- ITS FALSE NEIGHBOUR: 'it returns false'. Refute it at one input. -/
def fnIronedOfWrong : ChangeSpec := { name := "fnIronedOf", fn := fun _ => fun
  | [d] => { results := [.lit (.bool false)], args := [d] }
  | _ => none }
def FnIronedOfWrongFalsely : Prop := fnIronedOfRow.holds Try.pinned (OpenSpec.ofChange fnIronedOfWrong)

/-- 'laws.FnEdgeRevenue': WHATEVER THE INPUT: true; the input reads as it did. -/
def fnEdgeRevenueSpec : ChangeSpec := { name := "fnEdgeRevenue", fn := fun _ => fun
  | [d] => { results := [.lit (.bool true)], args := [d] }
  | _ => none }
def fnEdgeRevenueRow : OpenClaim := { program := "ytoipjhdnmiomeaa", sum := "86c56d89686a8f3c5aa9097936a0b56ff28a1917a2f7092664a0ce79b46bc125", func := "loop.example/salesbybids/laws.FnEdgeRevenue", spec := "fnEdgeRevenue", unfollowed := true, recurses := true, apart := false }
def FnEdgeRevenueSaid : Prop := fnEdgeRevenueRow.holds Try.pinned (OpenSpec.ofChange fnEdgeRevenueSpec)

/-- ITS FALSE NEIGHBOUR: 'it returns false'. Refute it at one input. -/
def fnEdgeRevenueWrong : ChangeSpec := { name := "fnEdgeRevenue", fn := fun _ => fun
  | [d] => { results := [.lit (.bool false)], args := [d] }
  | _ => none }
def FnEdgeRevenueWrongFalsely : Prop := fnEdgeRevenueRow.holds Try.pinned (OpenSpec.ofChange fnEdgeRevenueWrong)

/-- 'laws.FnVirtualRevenue': WHATEVER THE INPUT: true; the input reads as it did. -/
def fnVirtualRevenueSpec : ChangeSpec := { name := "fnVirtualRevenue", fn := fun _ => fun
  | [d] => { results := [.lit (.bool true)], args := [d] }
  | _ => none }
def fnVirtualRevenueRow : OpenClaim := { program := "ytoipjhdnmiomeaa", sum := "86c56d89686a8f3c5aa9097936a0b56ff28a1917a2f7092664a0ce79b46bc125", func := "loop.example/salesbybids/laws.FnVirtualRevenue", spec := "fnVirtualRevenue", unfollowed := true, recurses := true, apart := false }
def FnVirtualRevenueSaid : Prop := fnVirtualRevenueRow.holds Try.pinned (OpenSpec.ofChange fnVirtualRevenueSpec)

/-- ITS FALSE NEIGHBOUR: 'it returns false'. Refute it at one input. -/
def fnVirtualRevenueWrong : ChangeSpec := { name := "fnVirtualRevenue", fn := fun _ => fun
  | [d] => { results := [.lit (.bool false)], args := [d] }
  | _ => none }
def FnVirtualRevenueWrongFalsely : Prop := fnVirtualRevenueRow.holds Try.pinned (OpenSpec.ofChange fnVirtualRevenueWrong)

/-- 'laws.FnBestRevenue': WHATEVER THE INPUT: true; the input reads as it did. -/
def fnBestRevenueSpec : ChangeSpec := { name := "fnBestRevenue", fn := fun _ => fun
  | [d] => { results := [.lit (.bool true)], args := [d] }
  | _ => none }
def fnBestRevenueRow : OpenClaim := { program := "ytoipjhdnmiomeaa", sum := "86c56d89686a8f3c5aa9097936a0b56ff28a1917a2f7092664a0ce79b46bc125", func := "loop.example/salesbybids/laws.FnBestRevenue", spec := "fnBestRevenue", unfollowed := true, recurses := true, apart := false }
def FnBestRevenueSaid : Prop := fnBestRevenueRow.holds Try.pinned (OpenSpec.ofChange fnBestRevenueSpec)

/-- ITS FALSE NEIGHBOUR: 'it returns false'. Refute it at one input. -/
def fnBestRevenueWrong : ChangeSpec := { name := "fnBestRevenue", fn := fun _ => fun
  | [d] => { results := [.lit (.bool false)], args := [d] }
  | _ => none }
def FnBestRevenueWrongFalsely : Prop := fnBestRevenueRow.holds Try.pinned (OpenSpec.ofChange fnBestRevenueWrong)

/-- 'laws.FnMoreBidsBringMore': WHATEVER THE INPUT: true; the input reads as it did. -/
def fnMoreBidsBringMoreSpec : ChangeSpec := { name := "fnMoreBidsBringMore", fn := fun _ => fun
  | [d] => { results := [.lit (.bool true)], args := [d] }
  | _ => none }
def fnMoreBidsBringMoreRow : OpenClaim := { program := "ytoipjhdnmiomeaa", sum := "86c56d89686a8f3c5aa9097936a0b56ff28a1917a2f7092664a0ce79b46bc125", func := "loop.example/salesbybids/laws.FnMoreBidsBringMore", spec := "fnMoreBidsBringMore", unfollowed := true, recurses := true, apart := false }
def FnMoreBidsBringMoreSaid : Prop := fnMoreBidsBringMoreRow.holds Try.pinned (OpenSpec.ofChange fnMoreBidsBringMoreSpec)

/-- ITS FALSE NEIGHBOUR: 'it returns false'. Refute it at one input. -/
def fnMoreBidsBringMoreWrong : ChangeSpec := { name := "fnMoreBidsBringMore", fn := fun _ => fun
  | [d] => { results := [.lit (.bool false)], args := [d] }
  | _ => none }
def FnMoreBidsBringMoreWrongFalsely : Prop := fnMoreBidsBringMoreRow.holds Try.pinned (OpenSpec.ofChange fnMoreBidsBringMoreWrong)

/-- 'laws.FnOneMoreIsBetter': WHATEVER THE INPUT: true; the input reads as it did. -/
def fnOneMoreIsBetterSpec : ChangeSpec := { name := "fnOneMoreIsBetter", fn := fun _ => fun
  | [d] => { results := [.lit (.bool true)], args := [d] }
  | _ => none }
def fnOneMoreIsBetterRow : OpenClaim := { program := "ytoipjhdnmiomeaa", sum := "86c56d89686a8f3c5aa9097936a0b56ff28a1917a2f7092664a0ce79b46bc125", func := "loop.example/salesbybids/laws.FnOneMoreIsBetter", spec := "fnOneMoreIsBetter", unfollowed := true, recurses := true, apart := false }
def FnOneMoreIsBetterSaid : Prop := fnOneMoreIsBetterRow.holds Try.pinned (OpenSpec.ofChange fnOneMoreIsBetterSpec)

/-- ITS FALSE NEIGHBOUR: 'it returns false'. Refute it at one input. -/
def fnOneMoreIsBetterWrong : ChangeSpec := { name := "fnOneMoreIsBetter", fn := fun _ => fun
  | [d] => { results := [.lit (.bool false)], args := [d] }
  | _ => none }
def FnOneMoreIsBetterWrongFalsely : Prop := fnOneMoreIsBetterRow.holds Try.pinned (OpenSpec.ofChange fnOneMoreIsBetterWrong)

/-- 'laws.FnReservesHelp': WHATEVER THE INPUT: true; the input reads as it did. -/
def fnReservesHelpSpec : ChangeSpec := { name := "fnReservesHelp", fn := fun _ => fun
  | [d] => { results := [.lit (.bool true)], args := [d] }
  | _ => none }
def fnReservesHelpRow : OpenClaim := { program := "ytoipjhdnmiomeaa", sum := "86c56d89686a8f3c5aa9097936a0b56ff28a1917a2f7092664a0ce79b46bc125", func := "loop.example/salesbybids/laws.FnReservesHelp", spec := "fnReservesHelp", unfollowed := true, recurses := true, apart := false }
def FnReservesHelpSaid : Prop := fnReservesHelpRow.holds Try.pinned (OpenSpec.ofChange fnReservesHelpSpec)

/-- ITS FALSE NEIGHBOUR: 'it returns false'. Refute it at one input. -/
def fnReservesHelpWrong : ChangeSpec := { name := "fnReservesHelp", fn := fun _ => fun
  | [d] => { results := [.lit (.bool false)], args := [d] }
  | _ => none }
def FnReservesHelpWrongFalsely : Prop := fnReservesHelpRow.holds Try.pinned (OpenSpec.ofChange fnReservesHelpWrong)

/-- 'laws.FnExactValidWeights': WHATEVER THE INPUT: true; the input reads as it did. -/
def fnExactValidWeightsSpec : ChangeSpec := { name := "fnExactValidWeights", fn := fun _ => fun
  | [d] => { results := [.lit (.bool true)], args := [d] }
  | _ => none }
def fnExactValidWeightsRow : OpenClaim := { program := "ytoipjhdnmiomeaa", sum := "86c56d89686a8f3c5aa9097936a0b56ff28a1917a2f7092664a0ce79b46bc125", func := "loop.example/salesbybids/laws.FnExactValidWeights", spec := "fnExactValidWeights", apart := false }
def FnExactValidWeightsSaid : Prop := fnExactValidWeightsRow.holds Try.pinned (OpenSpec.ofChange fnExactValidWeightsSpec)

/-- ITS FALSE NEIGHBOUR: 'it returns false'. Refute it at one input. -/
def fnExactValidWeightsWrong : ChangeSpec := { name := "fnExactValidWeights", fn := fun _ => fun
  | [d] => { results := [.lit (.bool false)], args := [d] }
  | _ => none }
def FnExactValidWeightsWrongFalsely : Prop := fnExactValidWeightsRow.holds Try.pinned (OpenSpec.ofChange fnExactValidWeightsWrong)

/-- 'laws.FnExactRevenueAt': WHATEVER THE INPUT: true; the input reads as it did. -/
def fnExactRevenueAtSpec : ChangeSpec := { name := "fnExactRevenueAt", fn := fun _ => fun
  | [d1, d2] => { results := [.lit (.bool true)], args := [d1, d2] }
  | _ => none }
def fnExactRevenueAtRow : OpenClaim := { program := "ytoipjhdnmiomeaa", sum := "86c56d89686a8f3c5aa9097936a0b56ff28a1917a2f7092664a0ce79b46bc125", func := "loop.example/salesbybids/laws.FnExactRevenueAt", spec := "fnExactRevenueAt", unfollowed := true, recurses := true, apart := false }
def FnExactRevenueAtSaid : Prop := fnExactRevenueAtRow.holds Try.pinned (OpenSpec.ofChange fnExactRevenueAtSpec)

/-- ITS FALSE NEIGHBOUR: 'it returns false'. Refute it at one input. -/
def fnExactRevenueAtWrong : ChangeSpec := { name := "fnExactRevenueAt", fn := fun _ => fun
  | [d1, d2] => { results := [.lit (.bool false)], args := [d1, d2] }
  | _ => none }
def FnExactRevenueAtWrongFalsely : Prop := fnExactRevenueAtRow.holds Try.pinned (OpenSpec.ofChange fnExactRevenueAtWrong)

/- THE SECOND FORM. 'bulk': how many values and letters a reading holds, each counted each time it is reached (what is shared counts as often as it is met; a slice's spare places count too). A statement '..UptoSaid' is the law's where the arguments, and the package variables that the reading takes, are together of bulk at most 1048576: NARROWER than '..Said'. Prove '..Said' where nothing that the law and all that it calls make is longer than what came in: it says more and counts as full. Else prove '..UptoSaid'. A law counts once. -/
mutual
def uptoBulk {H : Type} : DataW H → Nat
  | .lit (.string bytes) => bytes.length + 1
  | .lit _ => 1
  | .nil => 1
  | .ptr d => uptoBulk d + 1
  | .slice elems spare => uptoBulkAll elems + uptoBulkAll spare + 1
  | .agg parts => uptoBulkAll parts + 1
  | .iface _ d => uptoBulk d + 1
  | .map entries => uptoBulkEntries entries + 1
  | .held _ => 1
def uptoBulkAll {H : Type} : List (DataW H) → Nat
  | [] => 0
  | d :: r => uptoBulk d + uptoBulkAll r
def uptoBulkEntries {H : Type} : List (Lit × DataW H) → Nat
  | [] => 0
  | x :: r => uptoBulkEntry x + uptoBulkEntries r
def uptoBulkEntry {H : Type} : Lit × DataW H → Nat
  | (.string bytes, d) => bytes.length + uptoBulk d + 1
  | (_, d) => uptoBulk d + 1
 end
def uptoSmall : (H : Type) → List (DataW H) → Bool := fun _ ds => decide (uptoBulkAll ds ≤ 1048576)
def OpenSpec.upto (s : _root_.Go.ChangeSpec) : _root_.Go.OpenSpec := { _root_.Go.OpenSpec.ofChange s with cond := some uptoSmall }

/-- 'laws.FnRevenueAt', WHERE WHAT IT READS IS OF BULK AT MOST 1048576: true; the input reads as it did. -/
def fnRevenueAtUptoRow : OpenClaim := { program := "ytoipjhdnmiomeaa", sum := "86c56d89686a8f3c5aa9097936a0b56ff28a1917a2f7092664a0ce79b46bc125", func := "loop.example/salesbybids/laws.FnRevenueAt", spec := "fnRevenueAt", unfollowed := true, recurses := true, apart := false, narrowed := true }
def FnRevenueAtUptoSaid : Prop := fnRevenueAtUptoRow.holds Try.pinned (OpenSpec.upto fnRevenueAtSpec)

/-- 'laws.FnBestPrice', WHERE WHAT IT READS IS OF BULK AT MOST 1048576: true; the input reads as it did. -/
def fnBestPriceUptoRow : OpenClaim := { program := "ytoipjhdnmiomeaa", sum := "86c56d89686a8f3c5aa9097936a0b56ff28a1917a2f7092664a0ce79b46bc125", func := "loop.example/salesbybids/laws.FnBestPrice", spec := "fnBestPrice", unfollowed := true, recurses := true, apart := false, narrowed := true }
def FnBestPriceUptoSaid : Prop := fnBestPriceUptoRow.holds Try.pinned (OpenSpec.upto fnBestPriceSpec)

/-- 'laws.FnVirtualOf', WHERE WHAT IT READS IS OF BULK AT MOST 1048576: true; the input reads as it did. -/
def fnVirtualOfUptoRow : OpenClaim := { program := "ytoipjhdnmiomeaa", sum := "86c56d89686a8f3c5aa9097936a0b56ff28a1917a2f7092664a0ce79b46bc125", func := "loop.example/salesbybids/laws.FnVirtualOf", spec := "fnVirtualOf", unfollowed := true, recurses := true, apart := false, narrowed := true }
def FnVirtualOfUptoSaid : Prop := fnVirtualOfUptoRow.holds Try.pinned (OpenSpec.upto fnVirtualOfSpec)

/-- 'laws.FnIronedOf', WHERE WHAT IT READS IS OF BULK AT MOST 1048576: true; the input reads as it did. -/
def fnIronedOfUptoRow : OpenClaim := { program := "ytoipjhdnmiomeaa", sum := "86c56d89686a8f3c5aa9097936a0b56ff28a1917a2f7092664a0ce79b46bc125", func := "loop.example/salesbybids/laws.FnIronedOf", spec := "fnIronedOf", unfollowed := true, recurses := true, apart := false, narrowed := true }
def FnIronedOfUptoSaid : Prop := fnIronedOfUptoRow.holds Try.pinned (OpenSpec.upto fnIronedOfSpec)

/-- 'laws.FnEdgeRevenue', WHERE WHAT IT READS IS OF BULK AT MOST 1048576: true; the input reads as it did. -/
def fnEdgeRevenueUptoRow : OpenClaim := { program := "ytoipjhdnmiomeaa", sum := "86c56d89686a8f3c5aa9097936a0b56ff28a1917a2f7092664a0ce79b46bc125", func := "loop.example/salesbybids/laws.FnEdgeRevenue", spec := "fnEdgeRevenue", unfollowed := true, recurses := true, apart := false, narrowed := true }
def FnEdgeRevenueUptoSaid : Prop := fnEdgeRevenueUptoRow.holds Try.pinned (OpenSpec.upto fnEdgeRevenueSpec)

/-- 'laws.FnVirtualRevenue', WHERE WHAT IT READS IS OF BULK AT MOST 1048576: true; the input reads as it did. -/
def fnVirtualRevenueUptoRow : OpenClaim := { program := "ytoipjhdnmiomeaa", sum := "86c56d89686a8f3c5aa9097936a0b56ff28a1917a2f7092664a0ce79b46bc125", func := "loop.example/salesbybids/laws.FnVirtualRevenue", spec := "fnVirtualRevenue", unfollowed := true, recurses := true, apart := false, narrowed := true }
def FnVirtualRevenueUptoSaid : Prop := fnVirtualRevenueUptoRow.holds Try.pinned (OpenSpec.upto fnVirtualRevenueSpec)

/-- 'laws.FnBestRevenue', WHERE WHAT IT READS IS OF BULK AT MOST 1048576: true; the input reads as it did. -/
def fnBestRevenueUptoRow : OpenClaim := { program := "ytoipjhdnmiomeaa", sum := "86c56d89686a8f3c5aa9097936a0b56ff28a1917a2f7092664a0ce79b46bc125", func := "loop.example/salesbybids/laws.FnBestRevenue", spec := "fnBestRevenue", unfollowed := true, recurses := true, apart := false, narrowed := true }
def FnBestRevenueUptoSaid : Prop := fnBestRevenueUptoRow.holds Try.pinned (OpenSpec.upto fnBestRevenueSpec)

/-- 'laws.FnMoreBidsBringMore', WHERE WHAT IT READS IS OF BULK AT MOST 1048576: true; the input reads as it did. -/
def fnMoreBidsBringMoreUptoRow : OpenClaim := { program := "ytoipjhdnmiomeaa", sum := "86c56d89686a8f3c5aa9097936a0b56ff28a1917a2f7092664a0ce79b46bc125", func := "loop.example/salesbybids/laws.FnMoreBidsBringMore", spec := "fnMoreBidsBringMore", unfollowed := true, recurses := true, apart := false, narrowed := true }
def FnMoreBidsBringMoreUptoSaid : Prop := fnMoreBidsBringMoreUptoRow.holds Try.pinned (OpenSpec.upto fnMoreBidsBringMoreSpec)

/-- 'laws.FnOneMoreIsBetter', WHERE WHAT IT READS IS OF BULK AT MOST 1048576: true; the input reads as it did. -/
def fnOneMoreIsBetterUptoRow : OpenClaim := { program := "ytoipjhdnmiomeaa", sum := "86c56d89686a8f3c5aa9097936a0b56ff28a1917a2f7092664a0ce79b46bc125", func := "loop.example/salesbybids/laws.FnOneMoreIsBetter", spec := "fnOneMoreIsBetter", unfollowed := true, recurses := true, apart := false, narrowed := true }
def FnOneMoreIsBetterUptoSaid : Prop := fnOneMoreIsBetterUptoRow.holds Try.pinned (OpenSpec.upto fnOneMoreIsBetterSpec)

/-- 'laws.FnReservesHelp', WHERE WHAT IT READS IS OF BULK AT MOST 1048576: true; the input reads as it did. -/
def fnReservesHelpUptoRow : OpenClaim := { program := "ytoipjhdnmiomeaa", sum := "86c56d89686a8f3c5aa9097936a0b56ff28a1917a2f7092664a0ce79b46bc125", func := "loop.example/salesbybids/laws.FnReservesHelp", spec := "fnReservesHelp", unfollowed := true, recurses := true, apart := false, narrowed := true }
def FnReservesHelpUptoSaid : Prop := fnReservesHelpUptoRow.holds Try.pinned (OpenSpec.upto fnReservesHelpSpec)

/-- 'laws.FnExactValidWeights', WHERE WHAT IT READS IS OF BULK AT MOST 1048576: true; the input reads as it did. -/
def fnExactValidWeightsUptoRow : OpenClaim := { program := "ytoipjhdnmiomeaa", sum := "86c56d89686a8f3c5aa9097936a0b56ff28a1917a2f7092664a0ce79b46bc125", func := "loop.example/salesbybids/laws.FnExactValidWeights", spec := "fnExactValidWeights", apart := false, narrowed := true }
def FnExactValidWeightsUptoSaid : Prop := fnExactValidWeightsUptoRow.holds Try.pinned (OpenSpec.upto fnExactValidWeightsSpec)

/-- 'laws.FnExactRevenueAt', WHERE WHAT IT READS IS OF BULK AT MOST 1048576: true; the input reads as it did. -/
def fnExactRevenueAtUptoRow : OpenClaim := { program := "ytoipjhdnmiomeaa", sum := "86c56d89686a8f3c5aa9097936a0b56ff28a1917a2f7092664a0ce79b46bc125", func := "loop.example/salesbybids/laws.FnExactRevenueAt", spec := "fnExactRevenueAt", unfollowed := true, recurses := true, apart := false, narrowed := true }
def FnExactRevenueAtUptoSaid : Prop := fnExactRevenueAtUptoRow.holds Try.pinned (OpenSpec.upto fnExactRevenueAtSpec)

end Rows
end Go.Proofs.Ytoipjhdnmiomeaa
