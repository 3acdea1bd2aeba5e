/-
  No cell of these rows narrows 'for every input' (looked for: loops, veiled, ifaces, maps, wideKeys, modest, calm, conditions, laid).
  DERIVED. THE GIVEN ROWS OF THIS SEAT. 12 by the template 'for every input the law returns true; each argument reads behind the call as it read before'; 0 by the template 'total and deterministic' (their statements: YtcbhjcbbjegmiaaTotals.lean).
  GIVEN WITH THE SEED: the statements are not yours to turn. If you find one false, say at which input.
  Laid BY PROGRAM, IN A SANDBOX (cutbox-rows.mjs): the forced cells as the released guide's own fill.sh prints them over the translation 1f5b274029e153bb… (all of the seat's roots in one cut). By AI agents, Wed Nov 11 2026. No macro, syntax, notation, axiom, sorry.
-/
import Derived.Test.YtcbhjcbbjegmiaaChecked
import GoSem.Claim
import GoSem.ClaimJoined
import GoSem.ClaimMapViews
import Derived.JoinedTies
import Derived.KernelRfl
namespace Go.Proofs.Ytcbhjcbbjegmiaa
/- THE CELL 'sum', in the pinned program and in every row, IS THE sha256 OF THE DUMP (.gsa) THAT YtcbhjcbbjegmiaaProg.lean LOADS. Nothing in Lean hashes anything: it is a label: what it is worth is what the hold of that sum in a sandbox is worth. -/
noncomputable def Try.pinned : Pinned := { name := "ytcbhjcbbjegmiaa", sum := "1f5b274029e153bb5e954f76b6d4a7a44c2353f9d44f5f526ad22b625a2c0a1a", checked := Try.checked }
namespace Rows
def none {H : Type} : Left H := { results := [], args := [] }

/-- 'laws.FnSaleBy': WHATEVER THE INPUT: true; the input reads as it did. -/
def fnSaleBySpec : ChangeSpec := { name := "fnSaleBy", fn := fun _ => fun
  | [d] => { results := [.lit (.bool true)], args := [d] }
  | _ => none }
def fnSaleByRow : OpenClaim := { program := "ytcbhjcbbjegmiaa", sum := "1f5b274029e153bb5e954f76b6d4a7a44c2353f9d44f5f526ad22b625a2c0a1a", func := "loop.example/salesbybids/laws.FnSaleBy", spec := "fnSaleBy", unfollowed := true, recurses := true, apart := false }
def FnSaleBySaid : Prop := fnSaleByRow.holds Try.pinned (OpenSpec.ofChange fnSaleBySpec)

/-- ITS FALSE NEIGHBOUR: 'it returns false'. Refute it at one input. -/
def fnSaleByWrong : ChangeSpec := { name := "fnSaleBy", fn := fun _ => fun
  | [d] => { results := [.lit (.bool false)], args := [d] }
  | _ => none }
def FnSaleByWrongFalsely : Prop := fnSaleByRow.holds Try.pinned (OpenSpec.ofChange fnSaleByWrong)

/-- 'laws.FnLeastToWin': WHATEVER THE INPUT: true; the input reads as it did. -/
def fnLeastToWinSpec : ChangeSpec := { name := "fnLeastToWin", fn := fun _ => fun
  | [d] => { results := [.lit (.bool true)], args := [d] }
  | _ => none }
def fnLeastToWinRow : OpenClaim := { program := "ytcbhjcbbjegmiaa", sum := "1f5b274029e153bb5e954f76b6d4a7a44c2353f9d44f5f526ad22b625a2c0a1a", func := "loop.example/salesbybids/laws.FnLeastToWin", spec := "fnLeastToWin", unfollowed := true, recurses := true, apart := false }
def FnLeastToWinSaid : Prop := fnLeastToWinRow.holds Try.pinned (OpenSpec.ofChange fnLeastToWinSpec)

/-- ITS FALSE NEIGHBOUR: 'it returns false'. Refute it at one input. -/
def fnLeastToWinWrong : ChangeSpec := { name := "fnLeastToWin", fn := fun _ => fun
  | [d] => { results := [.lit (.bool false)], args := [d] }
  | _ => none }
def FnLeastToWinWrongFalsely : Prop := fnLeastToWinRow.holds Try.pinned (OpenSpec.ofChange fnLeastToWinWrong)

/-- 'laws.FnGainOf': WHATEVER THE INPUT: true; the input reads as it did. -/
def fnGainOfSpec : ChangeSpec := { name := "fnGainOf", fn := fun _ => fun
  | [d] => { results := [.lit (.bool true)], args := [d] }
  | _ => none }
def fnGainOfRow : OpenClaim := { program := "ytcbhjcbbjegmiaa", sum := "1f5b274029e153bb5e954f76b6d4a7a44c2353f9d44f5f526ad22b625a2c0a1a", func := "loop.example/salesbybids/laws.FnGainOf", spec := "fnGainOf", unfollowed := true, recurses := true, apart := false }
def FnGainOfSaid : Prop := fnGainOfRow.holds Try.pinned (OpenSpec.ofChange fnGainOfSpec)

/-- ITS FALSE NEIGHBOUR: 'it returns false'. Refute it at one input. -/
def fnGainOfWrong : ChangeSpec := { name := "fnGainOf", fn := fun _ => fun
  | [d] => { results := [.lit (.bool false)], args := [d] }
  | _ => none }
def FnGainOfWrongFalsely : Prop := fnGainOfRow.holds Try.pinned (OpenSpec.ofChange fnGainOfWrong)

/-- 'laws.FnBestBid': WHATEVER THE INPUT: true; the input reads as it did. -/
def fnBestBidSpec : ChangeSpec := { name := "fnBestBid", fn := fun _ => fun
  | [d] => { results := [.lit (.bool true)], args := [d] }
  | _ => none }
def fnBestBidRow : OpenClaim := { program := "ytcbhjcbbjegmiaa", sum := "1f5b274029e153bb5e954f76b6d4a7a44c2353f9d44f5f526ad22b625a2c0a1a", func := "loop.example/salesbybids/laws.FnBestBid", spec := "fnBestBid", unfollowed := true, recurses := true, apart := false }
def FnBestBidSaid : Prop := fnBestBidRow.holds Try.pinned (OpenSpec.ofChange fnBestBidSpec)

/-- ITS FALSE NEIGHBOUR: 'it returns false'. Refute it at one input. -/
def fnBestBidWrong : ChangeSpec := { name := "fnBestBid", fn := fun _ => fun
  | [d] => { results := [.lit (.bool false)], args := [d] }
  | _ => none }
def FnBestBidWrongFalsely : Prop := fnBestBidRow.holds Try.pinned (OpenSpec.ofChange fnBestBidWrong)

/-- 'laws.FnIsTrue': WHATEVER THE INPUT: true; the input reads as it did. -/
def fnIsTrueSpec : ChangeSpec := { name := "fnIsTrue", fn := fun _ => fun
  | [d] => { results := [.lit (.bool true)], args := [d] }
  | _ => none }
def fnIsTrueRow : OpenClaim := { program := "ytcbhjcbbjegmiaa", sum := "1f5b274029e153bb5e954f76b6d4a7a44c2353f9d44f5f526ad22b625a2c0a1a", func := "loop.example/salesbybids/laws.FnIsTrue", spec := "fnIsTrue", unfollowed := true, recurses := true, apart := false }
def FnIsTrueSaid : Prop := fnIsTrueRow.holds Try.pinned (OpenSpec.ofChange fnIsTrueSpec)

/-- ITS FALSE NEIGHBOUR: 'it returns false'. Refute it at one input. -/
def fnIsTrueWrong : ChangeSpec := { name := "fnIsTrue", fn := fun _ => fun
  | [d] => { results := [.lit (.bool false)], args := [d] }
  | _ => none }
def FnIsTrueWrongFalsely : Prop := fnIsTrueRow.holds Try.pinned (OpenSpec.ofChange fnIsTrueWrong)

/-- 'laws.FnRestsOf': WHATEVER THE INPUT: true; the input reads as it did. -/
def fnRestsOfSpec : ChangeSpec := { name := "fnRestsOf", fn := fun _ => fun
  | [d] => { results := [.lit (.bool true)], args := [d] }
  | _ => none }
def fnRestsOfRow : OpenClaim := { program := "ytcbhjcbbjegmiaa", sum := "1f5b274029e153bb5e954f76b6d4a7a44c2353f9d44f5f526ad22b625a2c0a1a", func := "loop.example/salesbybids/laws.FnRestsOf", spec := "fnRestsOf", unfollowed := true, recurses := true, apart := false }
def FnRestsOfSaid : Prop := fnRestsOfRow.holds Try.pinned (OpenSpec.ofChange fnRestsOfSpec)

/-- ITS FALSE NEIGHBOUR: 'it returns false'. Refute it at one input. -/
def fnRestsOfWrong : ChangeSpec := { name := "fnRestsOf", fn := fun _ => fun
  | [d] => { results := [.lit (.bool false)], args := [d] }
  | _ => none }
def FnRestsOfWrongFalsely : Prop := fnRestsOfRow.holds Try.pinned (OpenSpec.ofChange fnRestsOfWrong)

/-- 'laws.FnRestsOfTruth': WHATEVER THE INPUT: true; the input reads as it did. -/
def fnRestsOfTruthSpec : ChangeSpec := { name := "fnRestsOfTruth", fn := fun _ => fun
  | [d] => { results := [.lit (.bool true)], args := [d] }
  | _ => none }
def fnRestsOfTruthRow : OpenClaim := { program := "ytcbhjcbbjegmiaa", sum := "1f5b274029e153bb5e954f76b6d4a7a44c2353f9d44f5f526ad22b625a2c0a1a", func := "loop.example/salesbybids/laws.FnRestsOfTruth", spec := "fnRestsOfTruth", unfollowed := true, recurses := true, apart := false }
def FnRestsOfTruthSaid : Prop := fnRestsOfTruthRow.holds Try.pinned (OpenSpec.ofChange fnRestsOfTruthSpec)

/-- ITS FALSE NEIGHBOUR: 'it returns false'. Refute it at one input. -/
def fnRestsOfTruthWrong : ChangeSpec := { name := "fnRestsOfTruth", fn := fun _ => fun
  | [d] => { results := [.lit (.bool false)], args := [d] }
  | _ => none }
def FnRestsOfTruthWrongFalsely : Prop := fnRestsOfTruthRow.holds Try.pinned (OpenSpec.ofChange fnRestsOfTruthWrong)

/-- 'laws.FnExactValidBids': WHATEVER THE INPUT: true; the input reads as it did. -/
def fnExactValidBidsSpec : ChangeSpec := { name := "fnExactValidBids", fn := fun _ => fun
  | [d] => { results := [.lit (.bool true)], args := [d] }
  | _ => none }
def fnExactValidBidsRow : OpenClaim := { program := "ytcbhjcbbjegmiaa", sum := "1f5b274029e153bb5e954f76b6d4a7a44c2353f9d44f5f526ad22b625a2c0a1a", func := "loop.example/salesbybids/laws.FnExactValidBids", spec := "fnExactValidBids", apart := false }
def FnExactValidBidsSaid : Prop := fnExactValidBidsRow.holds Try.pinned (OpenSpec.ofChange fnExactValidBidsSpec)

/-- ITS FALSE NEIGHBOUR: 'it returns false'. Refute it at one input. -/
def fnExactValidBidsWrong : ChangeSpec := { name := "fnExactValidBids", fn := fun _ => fun
  | [d] => { results := [.lit (.bool false)], args := [d] }
  | _ => none }
def FnExactValidBidsWrongFalsely : Prop := fnExactValidBidsRow.holds Try.pinned (OpenSpec.ofChange fnExactValidBidsWrong)

/-- 'laws.FnExactSaleBy': WHATEVER THE INPUT: true; the input reads as it did. -/
def fnExactSaleBySpec : ChangeSpec := { name := "fnExactSaleBy", fn := fun _ => fun
  | [d1, d2, d3] => { results := [.lit (.bool true)], args := [d1, d2, d3] }
  | _ => none }
def fnExactSaleByRow : OpenClaim := { program := "ytcbhjcbbjegmiaa", sum := "1f5b274029e153bb5e954f76b6d4a7a44c2353f9d44f5f526ad22b625a2c0a1a", func := "loop.example/salesbybids/laws.FnExactSaleBy", spec := "fnExactSaleBy", unfollowed := true, recurses := true, apart := false }
def FnExactSaleBySaid : Prop := fnExactSaleByRow.holds Try.pinned (OpenSpec.ofChange fnExactSaleBySpec)

/-- ITS FALSE NEIGHBOUR: 'it returns false'. Refute it at one input. -/
def fnExactSaleByWrong : ChangeSpec := { name := "fnExactSaleBy", fn := fun _ => fun
  | [d1, d2, d3] => { results := [.lit (.bool false)], args := [d1, d2, d3] }
  | _ => none }
def FnExactSaleByWrongFalsely : Prop := fnExactSaleByRow.holds Try.pinned (OpenSpec.ofChange fnExactSaleByWrong)

/-- 'laws.FnExactLeastToWin': WHATEVER THE INPUT: true; the input reads as it did. -/
def fnExactLeastToWinSpec : ChangeSpec := { name := "fnExactLeastToWin", fn := fun _ => fun
  | [d1, d2, d3] => { results := [.lit (.bool true)], args := [d1, d2, d3] }
  | _ => none }
def fnExactLeastToWinRow : OpenClaim := { program := "ytcbhjcbbjegmiaa", sum := "1f5b274029e153bb5e954f76b6d4a7a44c2353f9d44f5f526ad22b625a2c0a1a", func := "loop.example/salesbybids/laws.FnExactLeastToWin", spec := "fnExactLeastToWin", apart := false }
def FnExactLeastToWinSaid : Prop := fnExactLeastToWinRow.holds Try.pinned (OpenSpec.ofChange fnExactLeastToWinSpec)

/-- ITS FALSE NEIGHBOUR: 'it returns false'. Refute it at one input. -/
def fnExactLeastToWinWrong : ChangeSpec := { name := "fnExactLeastToWin", fn := fun _ => fun
  | [d1, d2, d3] => { results := [.lit (.bool false)], args := [d1, d2, d3] }
  | _ => none }
def FnExactLeastToWinWrongFalsely : Prop := fnExactLeastToWinRow.holds Try.pinned (OpenSpec.ofChange fnExactLeastToWinWrong)

/-- 'laws.FnExactGainOf': WHATEVER THE INPUT: true; the input reads as it did. -/
def fnExactGainOfSpec : ChangeSpec := { name := "fnExactGainOf", fn := fun _ => fun
  | [d1, d2, d3, d4, d5] => { results := [.lit (.bool true)], args := [d1, d2, d3, d4, d5] }
  | _ => none }
def fnExactGainOfRow : OpenClaim := { program := "ytcbhjcbbjegmiaa", sum := "1f5b274029e153bb5e954f76b6d4a7a44c2353f9d44f5f526ad22b625a2c0a1a", func := "loop.example/salesbybids/laws.FnExactGainOf", spec := "fnExactGainOf", unfollowed := true, recurses := true, apart := false }
def FnExactGainOfSaid : Prop := fnExactGainOfRow.holds Try.pinned (OpenSpec.ofChange fnExactGainOfSpec)

/-- ITS FALSE NEIGHBOUR: 'it returns false'. Refute it at one input. -/
def fnExactGainOfWrong : ChangeSpec := { name := "fnExactGainOf", fn := fun _ => fun
  | [d1, d2, d3, d4, d5] => { results := [.lit (.bool false)], args := [d1, d2, d3, d4, d5] }
  | _ => none }
def FnExactGainOfWrongFalsely : Prop := fnExactGainOfRow.holds Try.pinned (OpenSpec.ofChange fnExactGainOfWrong)

/-- 'laws.FnExactBestBid': WHATEVER THE INPUT: true; the input reads as it did. -/
def fnExactBestBidSpec : ChangeSpec := { name := "fnExactBestBid", fn := fun _ => fun
  | [d1, d2, d3, d4, d5] => { results := [.lit (.bool true)], args := [d1, d2, d3, d4, d5] }
  | _ => none }
def fnExactBestBidRow : OpenClaim := { program := "ytcbhjcbbjegmiaa", sum := "1f5b274029e153bb5e954f76b6d4a7a44c2353f9d44f5f526ad22b625a2c0a1a", func := "loop.example/salesbybids/laws.FnExactBestBid", spec := "fnExactBestBid", unfollowed := true, recurses := true, apart := false }
def FnExactBestBidSaid : Prop := fnExactBestBidRow.holds Try.pinned (OpenSpec.ofChange fnExactBestBidSpec)

/-- ITS FALSE NEIGHBOUR: 'it returns false'. Refute it at one input. -/
def fnExactBestBidWrong : ChangeSpec := { name := "fnExactBestBid", fn := fun _ => fun
  | [d1, d2, d3, d4, d5] => { results := [.lit (.bool false)], args := [d1, d2, d3, d4, d5] }
  | _ => none }
def FnExactBestBidWrongFalsely : Prop := fnExactBestBidRow.holds Try.pinned (OpenSpec.ofChange fnExactBestBidWrong)

/- THE SECOND FORM. 'bulk': how many values and letters a reading holds, each counted each time it is reached (what is shared counts as often as it is met; a slice's spare places count too). A statement '..UptoSaid' is the law's where the arguments, and the package variables that the reading takes, are together of bulk at most 1048576: NARROWER than '..Said'. Prove '..Said' where nothing that the law and all that it calls make is longer than what came in: it says more and counts as full. Else prove '..UptoSaid'. A law counts once. -/
mutual
def uptoBulk {H : Type} : DataW H → Nat
  | .lit (.string bytes) => bytes.length + 1
  | .lit _ => 1
  | .nil => 1
  | .ptr d => uptoBulk d + 1
  | .slice elems spare => uptoBulkAll elems + uptoBulkAll spare + 1
  | .agg parts => uptoBulkAll parts + 1
  | .iface _ d => uptoBulk d + 1
  | .map entries => uptoBulkEntries entries + 1
  | .held _ => 1
def uptoBulkAll {H : Type} : List (DataW H) → Nat
  | [] => 0
  | d :: r => uptoBulk d + uptoBulkAll r
def uptoBulkEntries {H : Type} : List (Lit × DataW H) → Nat
  | [] => 0
  | x :: r => uptoBulkEntry x + uptoBulkEntries r
def uptoBulkEntry {H : Type} : Lit × DataW H → Nat
  | (.string bytes, d) => bytes.length + uptoBulk d + 1
  | (_, d) => uptoBulk d + 1
 end
def uptoSmall : (H : Type) → List (DataW H) → Bool := fun _ ds => decide (uptoBulkAll ds ≤ 1048576)
def OpenSpec.upto (s : _root_.Go.ChangeSpec) : _root_.Go.OpenSpec := { _root_.Go.OpenSpec.ofChange s with cond := some uptoSmall }

/-- 'laws.FnSaleBy', WHERE WHAT IT READS IS OF BULK AT MOST 1048576: true; the input reads as it did. -/
def fnSaleByUptoRow : OpenClaim := { program := "ytcbhjcbbjegmiaa", sum := "1f5b274029e153bb5e954f76b6d4a7a44c2353f9d44f5f526ad22b625a2c0a1a", func := "loop.example/salesbybids/laws.FnSaleBy", spec := "fnSaleBy", unfollowed := true, recurses := true, apart := false, narrowed := true }
def FnSaleByUptoSaid : Prop := fnSaleByUptoRow.holds Try.pinned (OpenSpec.upto fnSaleBySpec)

/-- 'laws.FnLeastToWin', WHERE WHAT IT READS IS OF BULK AT MOST 1048576: true; the input reads as it did. -/
def fnLeastToWinUptoRow : OpenClaim := { program := "ytcbhjcbbjegmiaa", sum := "1f5b274029e153bb5e954f76b6d4a7a44c2353f9d44f5f526ad22b625a2c0a1a", func := "loop.example/salesbybids/laws.FnLeastToWin", spec := "fnLeastToWin", unfollowed := true, recurses := true, apart := false, narrowed := true }
def FnLeastToWinUptoSaid : Prop := fnLeastToWinUptoRow.holds Try.pinned (OpenSpec.upto fnLeastToWinSpec)

/-- 'laws.FnGainOf', WHERE WHAT IT READS IS OF BULK AT MOST 1048576: true; the input reads as it did. -/
def fnGainOfUptoRow : OpenClaim := { program := "ytcbhjcbbjegmiaa", sum := "1f5b274029e153bb5e954f76b6d4a7a44c2353f9d44f5f526ad22b625a2c0a1a", func := "loop.example/salesbybids/laws.FnGainOf", spec := "fnGainOf", unfollowed := true, recurses := true, apart := false, narrowed := true }
def FnGainOfUptoSaid : Prop := fnGainOfUptoRow.holds Try.pinned (OpenSpec.upto fnGainOfSpec)

/-- 'laws.FnBestBid', WHERE WHAT IT READS IS OF BULK AT MOST 1048576: true; the input reads as it did. -/
def fnBestBidUptoRow : OpenClaim := { program := "ytcbhjcbbjegmiaa", sum := "1f5b274029e153bb5e954f76b6d4a7a44c2353f9d44f5f526ad22b625a2c0a1a", func := "loop.example/salesbybids/laws.FnBestBid", spec := "fnBestBid", unfollowed := true, recurses := true, apart := false, narrowed := true }
def FnBestBidUptoSaid : Prop := fnBestBidUptoRow.holds Try.pinned (OpenSpec.upto fnBestBidSpec)

/-- 'laws.FnIsTrue', WHERE WHAT IT READS IS OF BULK AT MOST 1048576: true; the input reads as it did. -/
def fnIsTrueUptoRow : OpenClaim := { program := "ytcbhjcbbjegmiaa", sum := "1f5b274029e153bb5e954f76b6d4a7a44c2353f9d44f5f526ad22b625a2c0a1a", func := "loop.example/salesbybids/laws.FnIsTrue", spec := "fnIsTrue", unfollowed := true, recurses := true, apart := false, narrowed := true }
def FnIsTrueUptoSaid : Prop := fnIsTrueUptoRow.holds Try.pinned (OpenSpec.upto fnIsTrueSpec)

/-- 'laws.FnRestsOf', WHERE WHAT IT READS IS OF BULK AT MOST 1048576: true; the input reads as it did. -/
def fnRestsOfUptoRow : OpenClaim := { program := "ytcbhjcbbjegmiaa", sum := "1f5b274029e153bb5e954f76b6d4a7a44c2353f9d44f5f526ad22b625a2c0a1a", func := "loop.example/salesbybids/laws.FnRestsOf", spec := "fnRestsOf", unfollowed := true, recurses := true, apart := false, narrowed := true }
def FnRestsOfUptoSaid : Prop := fnRestsOfUptoRow.holds Try.pinned (OpenSpec.upto fnRestsOfSpec)

/-- 'laws.FnRestsOfTruth', WHERE WHAT IT READS IS OF BULK AT MOST 1048576: true; the input reads as it did. -/
def fnRestsOfTruthUptoRow : OpenClaim := { program := "ytcbhjcbbjegmiaa", sum := "1f5b274029e153bb5e954f76b6d4a7a44c2353f9d44f5f526ad22b625a2c0a1a", func := "loop.example/salesbybids/laws.FnRestsOfTruth", spec := "fnRestsOfTruth", unfollowed := true, recurses := true, apart := false, narrowed := true }
def FnRestsOfTruthUptoSaid : Prop := fnRestsOfTruthUptoRow.holds Try.pinned (OpenSpec.upto fnRestsOfTruthSpec)

/-- 'laws.FnExactValidBids', WHERE WHAT IT READS IS OF BULK AT MOST 1048576: true; the input reads as it did. -/
def fnExactValidBidsUptoRow : OpenClaim := { program := "ytcbhjcbbjegmiaa", sum := "1f5b274029e153bb5e954f76b6d4a7a44c2353f9d44f5f526ad22b625a2c0a1a", func := "loop.example/salesbybids/laws.FnExactValidBids", spec := "fnExactValidBids", apart := false, narrowed := true }
def FnExactValidBidsUptoSaid : Prop := fnExactValidBidsUptoRow.holds Try.pinned (OpenSpec.upto fnExactValidBidsSpec)

/-- 'laws.FnExactSaleBy', WHERE WHAT IT READS IS OF BULK AT MOST 1048576: true; the input reads as it did. -/
def fnExactSaleByUptoRow : OpenClaim := { program := "ytcbhjcbbjegmiaa", sum := "1f5b274029e153bb5e954f76b6d4a7a44c2353f9d44f5f526ad22b625a2c0a1a", func := "loop.example/salesbybids/laws.FnExactSaleBy", spec := "fnExactSaleBy", unfollowed := true, recurses := true, apart := false, narrowed := true }
def FnExactSaleByUptoSaid : Prop := fnExactSaleByUptoRow.holds Try.pinned (OpenSpec.upto fnExactSaleBySpec)

/-- 'laws.FnExactLeastToWin', WHERE WHAT IT READS IS OF BULK AT MOST 1048576: true; the input reads as it did. -/
def fnExactLeastToWinUptoRow : OpenClaim := { program := "ytcbhjcbbjegmiaa", sum := "1f5b274029e153bb5e954f76b6d4a7a44c2353f9d44f5f526ad22b625a2c0a1a", func := "loop.example/salesbybids/laws.FnExactLeastToWin", spec := "fnExactLeastToWin", apart := false, narrowed := true }
def FnExactLeastToWinUptoSaid : Prop := fnExactLeastToWinUptoRow.holds Try.pinned (OpenSpec.upto fnExactLeastToWinSpec)

/-- 'laws.FnExactGainOf', WHERE WHAT IT READS IS OF BULK AT MOST 1048576: true; the input reads as it did. -/
def fnExactGainOfUptoRow : OpenClaim := { program := "ytcbhjcbbjegmiaa", sum := "1f5b274029e153bb5e954f76b6d4a7a44c2353f9d44f5f526ad22b625a2c0a1a", func := "loop.example/salesbybids/laws.FnExactGainOf", spec := "fnExactGainOf", unfollowed := true, recurses := true, apart := false, narrowed := true }
def FnExactGainOfUptoSaid : Prop := fnExactGainOfUptoRow.holds Try.pinned (OpenSpec.upto fnExactGainOfSpec)

/-- 'laws.FnExactBestBid', WHERE WHAT IT READS IS OF BULK AT MOST 1048576: true; the input reads as it did. -/
def fnExactBestBidUptoRow : OpenClaim := { program := "ytcbhjcbbjegmiaa", sum := "1f5b274029e153bb5e954f76b6d4a7a44c2353f9d44f5f526ad22b625a2c0a1a", func := "loop.example/salesbybids/laws.FnExactBestBid", spec := "fnExactBestBid", unfollowed := true, recurses := true, apart := false, narrowed := true }
def FnExactBestBidUptoSaid : Prop := fnExactBestBidUptoRow.holds Try.pinned (OpenSpec.upto fnExactBestBidSpec)

end Rows
end Go.Proofs.Ytcbhjcbbjegmiaa
