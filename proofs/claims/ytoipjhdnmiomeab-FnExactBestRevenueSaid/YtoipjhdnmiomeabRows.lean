/-
  No cell of these rows narrows 'for every input' (looked for: loops, veiled, ifaces, maps, wideKeys, modest, calm, conditions, laid).
  DERIVED. THE GIVEN ROWS OF THIS SEAT. 7 by the template 'for every input the law returns true; each argument reads behind the call as it read before'; 0 by the template 'total and deterministic' (their statements: YtoipjhdnmiomeabTotals.lean).
  GIVEN WITH THE SEED: the statements are not yours to turn. If you find one false, say at which input.
  Laid BY PROGRAM, IN A SANDBOX (cutbox-rows.mjs): the forced cells as the released guide's own fill.sh prints them over the translation a88c77ecabc522c3… (all of the seat's roots in one cut). By AI agents, Wed Nov 11 2026. No macro, syntax, notation, axiom, sorry.
-/
import Derived.Test.YtoipjhdnmiomeabChecked
import GoSem.Claim
import GoSem.ClaimJoined
import GoSem.ClaimMapViews
import Derived.JoinedTies
import Derived.KernelRfl
namespace Go.Proofs.Ytoipjhdnmiomeab
/- THE CELL 'sum', in the pinned program and in every row, IS THE sha256 OF THE DUMP (.gsa) THAT YtoipjhdnmiomeabProg.lean LOADS. Nothing in Lean hashes anything: it is a label: what it is worth is what the hold of that sum in a sandbox is worth. -/
noncomputable def Try.pinned : Pinned := { name := "ytoipjhdnmiomeab", sum := "a88c77ecabc522c3c5574fb2ba03d9c86653a0a35af83925972c1a3a926c77fe", checked := Try.checked }
namespace Rows
def none {H : Type} : Left H := { results := [], args := [] }

/-- 'laws.FnExactBestPrice': WHATEVER THE INPUT: true; the input reads as it did. -/
def fnExactBestPriceSpec : ChangeSpec := { name := "fnExactBestPrice", fn := fun _ => fun
  | [d] => { results := [.lit (.bool true)], args := [d] }
  | _ => none }
def fnExactBestPriceRow : OpenClaim := { program := "ytoipjhdnmiomeab", sum := "a88c77ecabc522c3c5574fb2ba03d9c86653a0a35af83925972c1a3a926c77fe", func := "loop.example/salesbybids/laws.FnExactBestPrice", spec := "fnExactBestPrice", unfollowed := true, recurses := true, apart := false }
def FnExactBestPriceSaid : Prop := fnExactBestPriceRow.holds Try.pinned (OpenSpec.ofChange fnExactBestPriceSpec)

/-- ITS FALSE NEIGHBOUR: 'it returns false'. Refute it at one input. -/
def fnExactBestPriceWrong : ChangeSpec := { name := "fnExactBestPrice", fn := fun _ => fun
  | [d] => { results := [.lit (.bool false)], args := [d] }
  | _ => none }
def FnExactBestPriceWrongFalsely : Prop := fnExactBestPriceRow.holds Try.pinned (OpenSpec.ofChange fnExactBestPriceWrong)

/-- 'laws.FnExactVirtualOf': WHATEVER THE INPUT: true; the input reads as it did. -/
def fnExactVirtualOfSpec : ChangeSpec := { name := "fnExactVirtualOf", fn := fun _ => fun
  | [d] => { results := [.lit (.bool true)], args := [d] }
  | _ => none }
def fnExactVirtualOfRow : OpenClaim := { program := "ytoipjhdnmiomeab", sum := "a88c77ecabc522c3c5574fb2ba03d9c86653a0a35af83925972c1a3a926c77fe", func := "loop.example/salesbybids/laws.FnExactVirtualOf", spec := "fnExactVirtualOf", unfollowed := true, recurses := true, apart := false }
def FnExactVirtualOfSaid : Prop := fnExactVirtualOfRow.holds Try.pinned (OpenSpec.ofChange fnExactVirtualOfSpec)

/-- ITS FALSE NEIGHBOUR: 'it returns false'. Refute it at one input. -/
def fnExactVirtualOfWrong : ChangeSpec := { name := "fnExactVirtualOf", fn := fun _ => fun
  | [d] => { results := [.lit (.bool false)], args := [d] }
  | _ => none }
def FnExactVirtualOfWrongFalsely : Prop := fnExactVirtualOfRow.holds Try.pinned (OpenSpec.ofChange fnExactVirtualOfWrong)

/-- 'laws.FnExactIronedOf': WHATEVER THE INPUT: true; the input reads as it did. -/
def fnExactIronedOfSpec : ChangeSpec := { name := "fnExactIronedOf", fn := fun _ => fun
  | [d] => { results := [.lit (.bool true)], args := [d] }
  | _ => none }
def fnExactIronedOfRow : OpenClaim := { program := "ytoipjhdnmiomeab", sum := "a88c77ecabc522c3c5574fb2ba03d9c86653a0a35af83925972c1a3a926c77fe", func := "loop.example/salesbybids/laws.FnExactIronedOf", spec := "fnExactIronedOf", unfollowed := true, recurses := true, apart := false }
def FnExactIronedOfSaid : Prop := fnExactIronedOfRow.holds Try.pinned (OpenSpec.ofChange fnExactIronedOfSpec)

/-- ITS FALSE NEIGHBOUR: 'it returns false'. Refute it at one input. -/
def fnExactIronedOfWrong : ChangeSpec := { name := "fnExactIronedOf", fn := fun _ => fun
  | [d] => { results := [.lit (.bool false)], args := [d] }
  | _ => none }
def FnExactIronedOfWrongFalsely : Prop := fnExactIronedOfRow.holds Try.pinned (OpenSpec.ofChange fnExactIronedOfWrong)

/-- 'laws.FnExactIsRegular': WHATEVER THE INPUT: true; the input reads as it did. -/
def fnExactIsRegularSpec : ChangeSpec := { name := "fnExactIsRegular", fn := fun _ => fun
  | [d] => { results := [.lit (.bool true)], args := [d] }
  | _ => none }
def fnExactIsRegularRow : OpenClaim := { program := "ytoipjhdnmiomeab", sum := "a88c77ecabc522c3c5574fb2ba03d9c86653a0a35af83925972c1a3a926c77fe", func := "loop.example/salesbybids/laws.FnExactIsRegular", spec := "fnExactIsRegular", unfollowed := true, recurses := true, apart := false }
def FnExactIsRegularSaid : Prop := fnExactIsRegularRow.holds Try.pinned (OpenSpec.ofChange fnExactIsRegularSpec)

/-- ITS FALSE NEIGHBOUR: 'it returns false'. Refute it at one input. -/
def fnExactIsRegularWrong : ChangeSpec := { name := "fnExactIsRegular", fn := fun _ => fun
  | [d] => { results := [.lit (.bool false)], args := [d] }
  | _ => none }
def FnExactIsRegularWrongFalsely : Prop := fnExactIsRegularRow.holds Try.pinned (OpenSpec.ofChange fnExactIsRegularWrong)

/-- 'laws.FnExactEdgeRevenue': WHATEVER THE INPUT: true; the input reads as it did. -/
def fnExactEdgeRevenueSpec : ChangeSpec := { name := "fnExactEdgeRevenue", fn := fun _ => fun
  | [d1, d2, d3] => { results := [.lit (.bool true)], args := [d1, d2, d3] }
  | _ => none }
def fnExactEdgeRevenueRow : OpenClaim := { program := "ytoipjhdnmiomeab", sum := "a88c77ecabc522c3c5574fb2ba03d9c86653a0a35af83925972c1a3a926c77fe", func := "loop.example/salesbybids/laws.FnExactEdgeRevenue", spec := "fnExactEdgeRevenue", unfollowed := true, recurses := true, apart := false }
def FnExactEdgeRevenueSaid : Prop := fnExactEdgeRevenueRow.holds Try.pinned (OpenSpec.ofChange fnExactEdgeRevenueSpec)

/-- ITS FALSE NEIGHBOUR: 'it returns false'. Refute it at one input. -/
def fnExactEdgeRevenueWrong : ChangeSpec := { name := "fnExactEdgeRevenue", fn := fun _ => fun
  | [d1, d2, d3] => { results := [.lit (.bool false)], args := [d1, d2, d3] }
  | _ => none }
def FnExactEdgeRevenueWrongFalsely : Prop := fnExactEdgeRevenueRow.holds Try.pinned (OpenSpec.ofChange fnExactEdgeRevenueWrong)

/-- 'laws.FnExactVirtualRevenue': WHATEVER THE INPUT: true; the input reads as it did. -/
def fnExactVirtualRevenueSpec : ChangeSpec := { name := "fnExactVirtualRevenue", fn := fun _ => fun
  | [d1, d2, d3] => { results := [.lit (.bool true)], args := [d1, d2, d3] }
  | _ => none }
def fnExactVirtualRevenueRow : OpenClaim := { program := "ytoipjhdnmiomeab", sum := "a88c77ecabc522c3c5574fb2ba03d9c86653a0a35af83925972c1a3a926c77fe", func := "loop.example/salesbybids/laws.FnExactVirtualRevenue", spec := "fnExactVirtualRevenue", unfollowed := true, recurses := true, apart := false }
def FnExactVirtualRevenueSaid : Prop := fnExactVirtualRevenueRow.holds Try.pinned (OpenSpec.ofChange fnExactVirtualRevenueSpec)

/-- ITS FALSE NEIGHBOUR: 'it returns false'. Refute it at one input. -/
def fnExactVirtualRevenueWrong : ChangeSpec := { name := "fnExactVirtualRevenue", fn := fun _ => fun
  | [d1, d2, d3] => { results := [.lit (.bool false)], args := [d1, d2, d3] }
  | _ => none }
def FnExactVirtualRevenueWrongFalsely : Prop := fnExactVirtualRevenueRow.holds Try.pinned (OpenSpec.ofChange fnExactVirtualRevenueWrong)

/-- 'laws.FnExactBestRevenue': WHATEVER THE INPUT: true; the input reads as it did. -/
def fnExactBestRevenueSpec : ChangeSpec := { name := "fnExactBestRevenue", fn := fun _ => fun
  | [d1, d2] => { results := [.lit (.bool true)], args := [d1, d2] }
  | _ => none }
def fnExactBestRevenueRow : OpenClaim := { program := "ytoipjhdnmiomeab", sum := "a88c77ecabc522c3c5574fb2ba03d9c86653a0a35af83925972c1a3a926c77fe", func := "loop.example/salesbybids/laws.FnExactBestRevenue", spec := "fnExactBestRevenue", unfollowed := true, recurses := true, apart := false }
def FnExactBestRevenueSaid : Prop := fnExactBestRevenueRow.holds Try.pinned (OpenSpec.ofChange fnExactBestRevenueSpec)

/-- ITS FALSE NEIGHBOUR: 'it returns false'. Refute it at one input. -/
def fnExactBestRevenueWrong : ChangeSpec := { name := "fnExactBestRevenue", fn := fun _ => fun
  | [d1, d2] => { results := [.lit (.bool false)], args := [d1, d2] }
  | _ => none }
def FnExactBestRevenueWrongFalsely : Prop := fnExactBestRevenueRow.holds Try.pinned (OpenSpec.ofChange fnExactBestRevenueWrong)

/- THE SECOND FORM. 'bulk': how many values and letters a reading holds, each counted each time it is reached (what is shared counts as often as it is met; a slice's spare places count too). A statement '..UptoSaid' is the law's where the arguments, and the package variables that the reading takes, are together of bulk at most 1048576: NARROWER than '..Said'. Prove '..Said' where nothing that the law and all that it calls make is longer than what came in: it says more and counts as full. Else prove '..UptoSaid'. A law counts once. -/
mutual
def uptoBulk {H : Type} : DataW H → Nat
  | .lit (.string bytes) => bytes.length + 1
  | .lit _ => 1
  | .nil => 1
  | .ptr d => uptoBulk d + 1
  | .slice elems spare => uptoBulkAll elems + uptoBulkAll spare + 1
  | .agg parts => uptoBulkAll parts + 1
  | .iface _ d => uptoBulk d + 1
  | .map entries => uptoBulkEntries entries + 1
  | .held _ => 1
def uptoBulkAll {H : Type} : List (DataW H) → Nat
  | [] => 0
  | d :: r => uptoBulk d + uptoBulkAll r
def uptoBulkEntries {H : Type} : List (Lit × DataW H) → Nat
  | [] => 0
  | x :: r => uptoBulkEntry x + uptoBulkEntries r
def uptoBulkEntry {H : Type} : Lit × DataW H → Nat
  | (.string bytes, d) => bytes.length + uptoBulk d + 1
  | (_, d) => uptoBulk d + 1
 end
def uptoSmall : (H : Type) → List (DataW H) → Bool := fun _ ds => decide (uptoBulkAll ds ≤ 1048576)
def OpenSpec.upto (s : _root_.Go.ChangeSpec) : _root_.Go.OpenSpec := { _root_.Go.OpenSpec.ofChange s with cond := some uptoSmall }

/-- 'laws.FnExactBestPrice', WHERE WHAT IT READS IS OF BULK AT MOST 1048576: true; the input reads as it did. -/
def fnExactBestPriceUptoRow : OpenClaim := { program := "ytoipjhdnmiomeab", sum := "a88c77ecabc522c3c5574fb2ba03d9c86653a0a35af83925972c1a3a926c77fe", func := "loop.example/salesbybids/laws.FnExactBestPrice", spec := "fnExactBestPrice", unfollowed := true, recurses := true, apart := false, narrowed := true }
def FnExactBestPriceUptoSaid : Prop := fnExactBestPriceUptoRow.holds Try.pinned (OpenSpec.upto fnExactBestPriceSpec)

/-- 'laws.FnExactVirtualOf', WHERE WHAT IT READS IS OF BULK AT MOST 1048576: true; the input reads as it did. -/
def fnExactVirtualOfUptoRow : OpenClaim := { program := "ytoipjhdnmiomeab", sum := "a88c77ecabc522c3c5574fb2ba03d9c86653a0a35af83925972c1a3a926c77fe", func := "loop.example/salesbybids/laws.FnExactVirtualOf", spec := "fnExactVirtualOf", unfollowed := true, recurses := true, apart := false, narrowed := true }
def FnExactVirtualOfUptoSaid : Prop := fnExactVirtualOfUptoRow.holds Try.pinned (OpenSpec.upto fnExactVirtualOfSpec)

/-- 'laws.FnExactIronedOf', WHERE WHAT IT READS IS OF BULK AT MOST 1048576: true; the input reads as it did. -/
def fnExactIronedOfUptoRow : OpenClaim := { program := "ytoipjhdnmiomeab", sum := "a88c77ecabc522c3c5574fb2ba03d9c86653a0a35af83925972c1a3a926c77fe", func := "loop.example/salesbybids/laws.FnExactIronedOf", spec := "fnExactIronedOf", unfollowed := true, recurses := true, apart := false, narrowed := true }
def FnExactIronedOfUptoSaid : Prop := fnExactIronedOfUptoRow.holds Try.pinned (OpenSpec.upto fnExactIronedOfSpec)

/-- 'laws.FnExactIsRegular', WHERE WHAT IT READS IS OF BULK AT MOST 1048576: true; the input reads as it did. -/
def fnExactIsRegularUptoRow : OpenClaim := { program := "ytoipjhdnmiomeab", sum := "a88c77ecabc522c3c5574fb2ba03d9c86653a0a35af83925972c1a3a926c77fe", func := "loop.example/salesbybids/laws.FnExactIsRegular", spec := "fnExactIsRegular", unfollowed := true, recurses := true, apart := false, narrowed := true }
def FnExactIsRegularUptoSaid : Prop := fnExactIsRegularUptoRow.holds Try.pinned (OpenSpec.upto fnExactIsRegularSpec)

/-- 'laws.FnExactEdgeRevenue', WHERE WHAT IT READS IS OF BULK AT MOST 1048576: true; the input reads as it did. -/
def fnExactEdgeRevenueUptoRow : OpenClaim := { program := "ytoipjhdnmiomeab", sum := "a88c77ecabc522c3c5574fb2ba03d9c86653a0a35af83925972c1a3a926c77fe", func := "loop.example/salesbybids/laws.FnExactEdgeRevenue", spec := "fnExactEdgeRevenue", unfollowed := true, recurses := true, apart := false, narrowed := true }
def FnExactEdgeRevenueUptoSaid : Prop := fnExactEdgeRevenueUptoRow.holds Try.pinned (OpenSpec.upto fnExactEdgeRevenueSpec)

/-- 'laws.FnExactVirtualRevenue', WHERE WHAT IT READS IS OF BULK AT MOST 1048576: true; the input reads as it did. -/
def fnExactVirtualRevenueUptoRow : OpenClaim := { program := "ytoipjhdnmiomeab", sum := "a88c77ecabc522c3c5574fb2ba03d9c86653a0a35af83925972c1a3a926c77fe", func := "loop.example/salesbybids/laws.FnExactVirtualRevenue", spec := "fnExactVirtualRevenue", unfollowed := true, recurses := true, apart := false, narrowed := true }
def FnExactVirtualRevenueUptoSaid : Prop := fnExactVirtualRevenueUptoRow.holds Try.pinned (OpenSpec.upto fnExactVirtualRevenueSpec)

/-- 'laws.FnExactBestRevenue', WHERE WHAT IT READS IS OF BULK AT MOST 1048576: true; the input reads as it did. -/
def fnExactBestRevenueUptoRow : OpenClaim := { program := "ytoipjhdnmiomeab", sum := "a88c77ecabc522c3c5574fb2ba03d9c86653a0a35af83925972c1a3a926c77fe", func := "loop.example/salesbybids/laws.FnExactBestRevenue", spec := "fnExactBestRevenue", unfollowed := true, recurses := true, apart := false, narrowed := true }
def FnExactBestRevenueUptoSaid : Prop := fnExactBestRevenueUptoRow.holds Try.pinned (OpenSpec.upto fnExactBestRevenueSpec)

end Rows
end Go.Proofs.Ytoipjhdnmiomeab
