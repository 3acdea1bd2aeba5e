/-
  No cell of these rows narrows 'for every input' (looked for: loops, veiled, ifaces, maps, wideKeys, modest, calm, conditions, laid).
  DERIVED. THE GIVEN ROWS OF THIS SEAT. 3 by the template 'for every input the law returns true; each argument reads behind the call as it read before'; 0 by the template 'total and deterministic' (their statements: YtcmbpkgfcglciabTotals.lean).
  GIVEN WITH THE SEED: the statements are not yours to turn. If you find one false, say at which input.
  Laid BY PROGRAM, IN A SANDBOX (cutbox-rows.mjs): the forced cells as the released guide's own fill.sh prints them over the translation 4b93a6a7362b3db2… (all of the seat's roots in one cut). By AI agents, Wed Nov 11 2026. No macro, syntax, notation, axiom, sorry.
-/
import Derived.Test.YtcmbpkgfcglciabChecked
import GoSem.Claim
import GoSem.ClaimJoined
import GoSem.ClaimMapViews
import Derived.JoinedTies
import Derived.KernelRfl
namespace Go.Proofs.Ytcmbpkgfcglciab
/- THE CELL 'sum', in the pinned program and in every row, IS THE sha256 OF THE DUMP (.gsa) THAT YtcmbpkgfcglciabProg.lean LOADS. Nothing in Lean hashes anything: it is a label: what it is worth is what the hold of that sum in a sandbox is worth. -/
noncomputable def Try.pinned : Pinned := { name := "ytcmbpkgfcglciab", sum := "4b93a6a7362b3db2d1a55dd87e3f1138403f8f6c160a2ccd439cde16cb3b907b", checked := Try.checked }
namespace Rows
def none {H : Type} : Left H := { results := [], args := [] }

/-- 'laws.FnExactIsSum': WHATEVER THE INPUT: true; the input reads as it did. -/
def fnExactIsSumSpec : ChangeSpec := { name := "fnExactIsSum", fn := fun _ => fun
  | [d] => { results := [.lit (.bool true)], args := [d] }
  | _ => none }
def fnExactIsSumRow : OpenClaim := { program := "ytcmbpkgfcglciab", sum := "4b93a6a7362b3db2d1a55dd87e3f1138403f8f6c160a2ccd439cde16cb3b907b", func := "loop.example/salesbybids/laws.FnExactIsSum", spec := "fnExactIsSum", unfollowed := true, recurses := true, apart := false }
def FnExactIsSumSaid : Prop := fnExactIsSumRow.holds Try.pinned (OpenSpec.ofChange fnExactIsSumSpec)

/-- ITS FALSE NEIGHBOUR: 'it returns false'. Refute it at one input. -/
def fnExactIsSumWrong : ChangeSpec := { name := "fnExactIsSum", fn := fun _ => fun
  | [d] => { results := [.lit (.bool false)], args := [d] }
  | _ => none }
def FnExactIsSumWrongFalsely : Prop := fnExactIsSumRow.holds Try.pinned (OpenSpec.ofChange fnExactIsSumWrong)

/-- 'laws.FnExactIsOne': WHATEVER THE INPUT: true; the input reads as it did. -/
def fnExactIsOneSpec : ChangeSpec := { name := "fnExactIsOne", fn := fun _ => fun
  | [d] => { results := [.lit (.bool true)], args := [d] }
  | _ => none }
def fnExactIsOneRow : OpenClaim := { program := "ytcmbpkgfcglciab", sum := "4b93a6a7362b3db2d1a55dd87e3f1138403f8f6c160a2ccd439cde16cb3b907b", func := "loop.example/salesbybids/laws.FnExactIsOne", spec := "fnExactIsOne", unfollowed := true, recurses := true, apart := false }
def FnExactIsOneSaid : Prop := fnExactIsOneRow.holds Try.pinned (OpenSpec.ofChange fnExactIsOneSpec)

/-- ITS FALSE NEIGHBOUR: 'it returns false'. Refute it at one input. -/
def fnExactIsOneWrong : ChangeSpec := { name := "fnExactIsOne", fn := fun _ => fun
  | [d] => { results := [.lit (.bool false)], args := [d] }
  | _ => none }
def FnExactIsOneWrongFalsely : Prop := fnExactIsOneRow.holds Try.pinned (OpenSpec.ofChange fnExactIsOneWrong)

/-- 'laws.FnExactIsModest': WHATEVER THE INPUT: true; the input reads as it did. -/
def fnExactIsModestSpec : ChangeSpec := { name := "fnExactIsModest", fn := fun _ => fun
  | [d] => { results := [.lit (.bool true)], args := [d] }
  | _ => none }
def fnExactIsModestRow : OpenClaim := { program := "ytcmbpkgfcglciab", sum := "4b93a6a7362b3db2d1a55dd87e3f1138403f8f6c160a2ccd439cde16cb3b907b", func := "loop.example/salesbybids/laws.FnExactIsModest", spec := "fnExactIsModest", apart := false }
def FnExactIsModestSaid : Prop := fnExactIsModestRow.holds Try.pinned (OpenSpec.ofChange fnExactIsModestSpec)

/-- ITS FALSE NEIGHBOUR: 'it returns false'. Refute it at one input. -/
def fnExactIsModestWrong : ChangeSpec := { name := "fnExactIsModest", fn := fun _ => fun
  | [d] => { results := [.lit (.bool false)], args := [d] }
  | _ => none }
def FnExactIsModestWrongFalsely : Prop := fnExactIsModestRow.holds Try.pinned (OpenSpec.ofChange fnExactIsModestWrong)

/- THE SECOND FORM. 'bulk': how many values and letters a reading holds, each counted each time it is reached (what is shared counts as often as it is met; a slice's spare places count too). A statement '..UptoSaid' is the law's where the arguments, and the package variables that the reading takes, are together of bulk at most 1048576: NARROWER than '..Said'. Prove '..Said' where nothing that the law and all that it calls make is longer than what came in: it says more and counts as full. Else prove '..UptoSaid'. A law counts once. -/
mutual
def uptoBulk {H : Type} : DataW H → Nat
  | .lit (.string bytes) => bytes.length + 1
  | .lit _ => 1
  | .nil => 1
  | .ptr d => uptoBulk d + 1
  | .slice elems spare => uptoBulkAll elems + uptoBulkAll spare + 1
  | .agg parts => uptoBulkAll parts + 1
  | .iface _ d => uptoBulk d + 1
  | .map entries => uptoBulkEntries entries + 1
  | .held _ => 1
def uptoBulkAll {H : Type} : List (DataW H) → Nat
  | [] => 0
  | d :: r => uptoBulk d + uptoBulkAll r
def uptoBulkEntries {H : Type} : List (Lit × DataW H) → Nat
  | [] => 0
  | x :: r => uptoBulkEntry x + uptoBulkEntries r
def uptoBulkEntry {H : Type} : Lit × DataW H → Nat
  | (.string bytes, d) => bytes.length + uptoBulk d + 1
  | (_, d) => uptoBulk d + 1
 end
def uptoSmall : (H : Type) → List (DataW H) → Bool := fun _ ds => decide (uptoBulkAll ds ≤ 1048576)
def OpenSpec.upto (s : _root_.Go.ChangeSpec) : _root_.Go.OpenSpec := { _root_.Go.OpenSpec.ofChange s with cond := some uptoSmall }

/-- 'laws.FnExactIsSum', WHERE WHAT IT READS IS OF BULK AT MOST 1048576: true; the input reads as it did. -/
def fnExactIsSumUptoRow : OpenClaim := { program := "ytcmbpkgfcglciab", sum := "4b93a6a7362b3db2d1a55dd87e3f1138403f8f6c160a2ccd439cde16cb3b907b", func := "loop.example/salesbybids/laws.FnExactIsSum", spec := "fnExactIsSum", unfollowed := true, recurses := true, apart := false, narrowed := true }
def FnExactIsSumUptoSaid : Prop := fnExactIsSumUptoRow.holds Try.pinned (OpenSpec.upto fnExactIsSumSpec)

/-- 'laws.FnExactIsOne', WHERE WHAT IT READS IS OF BULK AT MOST 1048576: true; the input reads as it did. -/
def fnExactIsOneUptoRow : OpenClaim := { program := "ytcmbpkgfcglciab", sum := "4b93a6a7362b3db2d1a55dd87e3f1138403f8f6c160a2ccd439cde16cb3b907b", func := "loop.example/salesbybids/laws.FnExactIsOne", spec := "fnExactIsOne", unfollowed := true, recurses := true, apart := false, narrowed := true }
def FnExactIsOneUptoSaid : Prop := fnExactIsOneUptoRow.holds Try.pinned (OpenSpec.upto fnExactIsOneSpec)

/-- 'laws.FnExactIsModest', WHERE WHAT IT READS IS OF BULK AT MOST 1048576: true; the input reads as it did. -/
def fnExactIsModestUptoRow : OpenClaim := { program := "ytcmbpkgfcglciab", sum := "4b93a6a7362b3db2d1a55dd87e3f1138403f8f6c160a2ccd439cde16cb3b907b", func := "loop.example/salesbybids/laws.FnExactIsModest", spec := "fnExactIsModest", apart := false, narrowed := true }
def FnExactIsModestUptoSaid : Prop := fnExactIsModestUptoRow.holds Try.pinned (OpenSpec.upto fnExactIsModestSpec)

end Rows
end Go.Proofs.Ytcmbpkgfcglciab
