/-
  No cell of these rows narrows 'for every input' (looked for: loops, veiled, ifaces, maps, wideKeys, modest, calm, conditions, laid).
  DERIVED. THE GIVEN ROWS OF THIS SEAT. 6 by the template 'for every input the law returns true; each argument reads behind the call as it read before'; 0 by the template 'total and deterministic' (their statements: YtcmbpkgfcglciaaTotals.lean).
  GIVEN WITH THE SEED: the statements are not yours to turn. If you find one false, say at which input.
  Laid BY PROGRAM, IN A SANDBOX (cutbox-rows.mjs): the forced cells as the released guide's own fill.sh prints them over the translation 69d26fd19a39d32d… (all of the seat's roots in one cut). By AI agents, Wed Nov 11 2026. No macro, syntax, notation, axiom, sorry.
-/
import Derived.Test.YtcmbpkgfcglciaaChecked
import GoSem.Claim
import GoSem.ClaimJoined
import GoSem.ClaimMapViews
import Derived.JoinedTies
import Derived.KernelRfl
namespace Go.Proofs.Ytcmbpkgfcglciaa
/- THE CELL 'sum', in the pinned program and in every row, IS THE sha256 OF THE DUMP (.gsa) THAT YtcmbpkgfcglciaaProg.lean LOADS. Nothing in Lean hashes anything: it is a label: what it is worth is what the hold of that sum in a sandbox is worth. -/
noncomputable def Try.pinned : Pinned := { name := "ytcmbpkgfcglciaa", sum := "69d26fd19a39d32d9eae55b0028bae6db3e6eec9fb87d4062647a2afaefac38a", checked := Try.checked }
namespace Rows
def none {H : Type} : Left H := { results := [], args := [] }

/-- 'laws.FnSplitWorth': WHATEVER THE INPUT: true; the input reads as it did. -/
def fnSplitWorthSpec : ChangeSpec := { name := "fnSplitWorth", fn := fun _ => fun
  | [d] => { results := [.lit (.bool true)], args := [d] }
  | _ => none }
def fnSplitWorthRow : OpenClaim := { program := "ytcmbpkgfcglciaa", sum := "69d26fd19a39d32d9eae55b0028bae6db3e6eec9fb87d4062647a2afaefac38a", func := "loop.example/salesbybids/laws.FnSplitWorth", spec := "fnSplitWorth", unfollowed := true, recurses := true, apart := false }
def FnSplitWorthSaid : Prop := fnSplitWorthRow.holds Try.pinned (OpenSpec.ofChange fnSplitWorthSpec)

/-- ITS FALSE NEIGHBOUR: 'it returns false'. Refute it at one input. -/
def fnSplitWorthWrong : ChangeSpec := { name := "fnSplitWorth", fn := fun _ => fun
  | [d] => { results := [.lit (.bool false)], args := [d] }
  | _ => none }
def FnSplitWorthWrongFalsely : Prop := fnSplitWorthRow.holds Try.pinned (OpenSpec.ofChange fnSplitWorthWrong)

/-- 'laws.FnBestSplit': WHATEVER THE INPUT: true; the input reads as it did. -/
def fnBestSplitSpec : ChangeSpec := { name := "fnBestSplit", fn := fun _ => fun
  | [d] => { results := [.lit (.bool true)], args := [d] }
  | _ => none }
def fnBestSplitRow : OpenClaim := { program := "ytcmbpkgfcglciaa", sum := "69d26fd19a39d32d9eae55b0028bae6db3e6eec9fb87d4062647a2afaefac38a", func := "loop.example/salesbybids/laws.FnBestSplit", spec := "fnBestSplit", unfollowed := true, recurses := true, apart := false }
def FnBestSplitSaid : Prop := fnBestSplitRow.holds Try.pinned (OpenSpec.ofChange fnBestSplitSpec)

/-- ITS FALSE NEIGHBOUR: 'it returns false'. Refute it at one input. -/
def fnBestSplitWrong : ChangeSpec := { name := "fnBestSplit", fn := fun _ => fun
  | [d] => { results := [.lit (.bool false)], args := [d] }
  | _ => none }
def FnBestSplitWrongFalsely : Prop := fnBestSplitRow.holds Try.pinned (OpenSpec.ofChange fnBestSplitWrong)

/-- 'laws.FnIsModest': WHATEVER THE INPUT: true; the input reads as it did. -/
def fnIsModestSpec : ChangeSpec := { name := "fnIsModest", fn := fun _ => fun
  | [d] => { results := [.lit (.bool true)], args := [d] }
  | _ => none }
def fnIsModestRow : OpenClaim := { program := "ytcmbpkgfcglciaa", sum := "69d26fd19a39d32d9eae55b0028bae6db3e6eec9fb87d4062647a2afaefac38a", func := "loop.example/salesbybids/laws.FnIsModest", spec := "fnIsModest", recurses := true, apart := false }
def FnIsModestSaid : Prop := fnIsModestRow.holds Try.pinned (OpenSpec.ofChange fnIsModestSpec)

/-- ITS FALSE NEIGHBOUR: 'it returns false'. Refute it at one input. -/
def fnIsModestWrong : ChangeSpec := { name := "fnIsModest", fn := fun _ => fun
  | [d] => { results := [.lit (.bool false)], args := [d] }
  | _ => none }
def FnIsModestWrongFalsely : Prop := fnIsModestRow.holds Try.pinned (OpenSpec.ofChange fnIsModestWrong)

/-- 'laws.FnExactValidTable': WHATEVER THE INPUT: true; the input reads as it did. -/
def fnExactValidTableSpec : ChangeSpec := { name := "fnExactValidTable", fn := fun _ => fun
  | [d] => { results := [.lit (.bool true)], args := [d] }
  | _ => none }
def fnExactValidTableRow : OpenClaim := { program := "ytcmbpkgfcglciaa", sum := "69d26fd19a39d32d9eae55b0028bae6db3e6eec9fb87d4062647a2afaefac38a", func := "loop.example/salesbybids/laws.FnExactValidTable", spec := "fnExactValidTable", apart := false }
def FnExactValidTableSaid : Prop := fnExactValidTableRow.holds Try.pinned (OpenSpec.ofChange fnExactValidTableSpec)

/-- ITS FALSE NEIGHBOUR: 'it returns false'. Refute it at one input. -/
def fnExactValidTableWrong : ChangeSpec := { name := "fnExactValidTable", fn := fun _ => fun
  | [d] => { results := [.lit (.bool false)], args := [d] }
  | _ => none }
def FnExactValidTableWrongFalsely : Prop := fnExactValidTableRow.holds Try.pinned (OpenSpec.ofChange fnExactValidTableWrong)

/-- 'laws.FnExactSplitWorth': WHATEVER THE INPUT: true; the input reads as it did. -/
def fnExactSplitWorthSpec : ChangeSpec := { name := "fnExactSplitWorth", fn := fun _ => fun
  | [d1, d2] => { results := [.lit (.bool true)], args := [d1, d2] }
  | _ => none }
def fnExactSplitWorthRow : OpenClaim := { program := "ytcmbpkgfcglciaa", sum := "69d26fd19a39d32d9eae55b0028bae6db3e6eec9fb87d4062647a2afaefac38a", func := "loop.example/salesbybids/laws.FnExactSplitWorth", spec := "fnExactSplitWorth", unfollowed := true, recurses := true, apart := false }
def FnExactSplitWorthSaid : Prop := fnExactSplitWorthRow.holds Try.pinned (OpenSpec.ofChange fnExactSplitWorthSpec)

/-- ITS FALSE NEIGHBOUR: 'it returns false'. Refute it at one input. -/
def fnExactSplitWorthWrong : ChangeSpec := { name := "fnExactSplitWorth", fn := fun _ => fun
  | [d1, d2] => { results := [.lit (.bool false)], args := [d1, d2] }
  | _ => none }
def FnExactSplitWorthWrongFalsely : Prop := fnExactSplitWorthRow.holds Try.pinned (OpenSpec.ofChange fnExactSplitWorthWrong)

/-- 'laws.FnExactBestSplit': WHATEVER THE INPUT: true; the input reads as it did. -/
def fnExactBestSplitSpec : ChangeSpec := { name := "fnExactBestSplit", fn := fun _ => fun
  | [d] => { results := [.lit (.bool true)], args := [d] }
  | _ => none }
def fnExactBestSplitRow : OpenClaim := { program := "ytcmbpkgfcglciaa", sum := "69d26fd19a39d32d9eae55b0028bae6db3e6eec9fb87d4062647a2afaefac38a", func := "loop.example/salesbybids/laws.FnExactBestSplit", spec := "fnExactBestSplit", unfollowed := true, recurses := true, apart := false }
def FnExactBestSplitSaid : Prop := fnExactBestSplitRow.holds Try.pinned (OpenSpec.ofChange fnExactBestSplitSpec)

/-- ITS FALSE NEIGHBOUR: 'it returns false'. Refute it at one input. -/
def fnExactBestSplitWrong : ChangeSpec := { name := "fnExactBestSplit", fn := fun _ => fun
  | [d] => { results := [.lit (.bool false)], args := [d] }
  | _ => none }
def FnExactBestSplitWrongFalsely : Prop := fnExactBestSplitRow.holds Try.pinned (OpenSpec.ofChange fnExactBestSplitWrong)

/- THE SECOND FORM. 'bulk': how many values and letters a reading holds, each counted each time it is reached (what is shared counts as often as it is met; a slice's spare places count too). A statement '..UptoSaid' is the law's where the arguments, and the package variables that the reading takes, are together of bulk at most 1048576: NARROWER than '..Said'. Prove '..Said' where nothing that the law and all that it calls make is longer than what came in: it says more and counts as full. Else prove '..UptoSaid'. A law counts once. -/
mutual
def uptoBulk {H : Type} : DataW H → Nat
  | .lit (.string bytes) => bytes.length + 1
  | .lit _ => 1
  | .nil => 1
  | .ptr d => uptoBulk d + 1
  | .slice elems spare => uptoBulkAll elems + uptoBulkAll spare + 1
  | .agg parts => uptoBulkAll parts + 1
  | .iface _ d => uptoBulk d + 1
  | .map entries => uptoBulkEntries entries + 1
  | .held _ => 1
def uptoBulkAll {H : Type} : List (DataW H) → Nat
  | [] => 0
  | d :: r => uptoBulk d + uptoBulkAll r
def uptoBulkEntries {H : Type} : List (Lit × DataW H) → Nat
  | [] => 0
  | x :: r => uptoBulkEntry x + uptoBulkEntries r
def uptoBulkEntry {H : Type} : Lit × DataW H → Nat
  | (.string bytes, d) => bytes.length + uptoBulk d + 1
  | (_, d) => uptoBulk d + 1
 end
def uptoSmall : (H : Type) → List (DataW H) → Bool := fun _ ds => decide (uptoBulkAll ds ≤ 1048576)
def OpenSpec.upto (s : _root_.Go.ChangeSpec) : _root_.Go.OpenSpec := { _root_.Go.OpenSpec.ofChange s with cond := some uptoSmall }

/-- 'laws.FnSplitWorth', WHERE WHAT IT READS IS OF BULK AT MOST 1048576: true; the input reads as it did. -/
def fnSplitWorthUptoRow : OpenClaim := { program := "ytcmbpkgfcglciaa", sum := "69d26fd19a39d32d9eae55b0028bae6db3e6eec9fb87d4062647a2afaefac38a", func := "loop.example/salesbybids/laws.FnSplitWorth", spec := "fnSplitWorth", unfollowed := true, recurses := true, apart := false, narrowed := true }
def FnSplitWorthUptoSaid : Prop := fnSplitWorthUptoRow.holds Try.pinned (OpenSpec.upto fnSplitWorthSpec)

/-- 'laws.FnBestSplit', WHERE WHAT IT READS IS OF BULK AT MOST 1048576: true; the input reads as it did. -/
def fnBestSplitUptoRow : OpenClaim := { program := "ytcmbpkgfcglciaa", sum := "69d26fd19a39d32d9eae55b0028bae6db3e6eec9fb87d4062647a2afaefac38a", func := "loop.example/salesbybids/laws.FnBestSplit", spec := "fnBestSplit", unfollowed := true, recurses := true, apart := false, narrowed := true }
def FnBestSplitUptoSaid : Prop := fnBestSplitUptoRow.holds Try.pinned (OpenSpec.upto fnBestSplitSpec)

/-- 'laws.FnIsModest', WHERE WHAT IT READS IS OF BULK AT MOST 1048576: true; the input reads as it did. -/
def fnIsModestUptoRow : OpenClaim := { program := "ytcmbpkgfcglciaa", sum := "69d26fd19a39d32d9eae55b0028bae6db3e6eec9fb87d4062647a2afaefac38a", func := "loop.example/salesbybids/laws.FnIsModest", spec := "fnIsModest", recurses := true, apart := false, narrowed := true }
def FnIsModestUptoSaid : Prop := fnIsModestUptoRow.holds Try.pinned (OpenSpec.upto fnIsModestSpec)

/-- 'laws.FnExactValidTable', WHERE WHAT IT READS IS OF BULK AT MOST 1048576: true; the input reads as it did. -/
def fnExactValidTableUptoRow : OpenClaim := { program := "ytcmbpkgfcglciaa", sum := "69d26fd19a39d32d9eae55b0028bae6db3e6eec9fb87d4062647a2afaefac38a", func := "loop.example/salesbybids/laws.FnExactValidTable", spec := "fnExactValidTable", apart := false, narrowed := true }
def FnExactValidTableUptoSaid : Prop := fnExactValidTableUptoRow.holds Try.pinned (OpenSpec.upto fnExactValidTableSpec)

/-- 'laws.FnExactSplitWorth', WHERE WHAT IT READS IS OF BULK AT MOST 1048576: true; the input reads as it did. -/
def fnExactSplitWorthUptoRow : OpenClaim := { program := "ytcmbpkgfcglciaa", sum := "69d26fd19a39d32d9eae55b0028bae6db3e6eec9fb87d4062647a2afaefac38a", func := "loop.example/salesbybids/laws.FnExactSplitWorth", spec := "fnExactSplitWorth", unfollowed := true, recurses := true, apart := false, narrowed := true }
def FnExactSplitWorthUptoSaid : Prop := fnExactSplitWorthUptoRow.holds Try.pinned (OpenSpec.upto fnExactSplitWorthSpec)

/-- 'laws.FnExactBestSplit', WHERE WHAT IT READS IS OF BULK AT MOST 1048576: true; the input reads as it did. -/
def fnExactBestSplitUptoRow : OpenClaim := { program := "ytcmbpkgfcglciaa", sum := "69d26fd19a39d32d9eae55b0028bae6db3e6eec9fb87d4062647a2afaefac38a", func := "loop.example/salesbybids/laws.FnExactBestSplit", spec := "fnExactBestSplit", unfollowed := true, recurses := true, apart := false, narrowed := true }
def FnExactBestSplitUptoSaid : Prop := fnExactBestSplitUptoRow.holds Try.pinned (OpenSpec.upto fnExactBestSplitSpec)

end Rows
end Go.Proofs.Ytcmbpkgfcglciaa
