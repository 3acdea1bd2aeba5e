/-
  No cell of these rows narrows 'for every input' (looked for: loops, veiled, ifaces, maps, wideKeys, modest, calm, conditions, laid).
  DERIVED. THE GIVEN ROWS OF THIS SEAT. 5 by the template 'for every input the law returns true; each argument reads behind the call as it read before'; 0 by the template 'total and deterministic' (their statements: YtdbpjlconbifpabTotals.lean).
  GIVEN WITH THE SEED: the statements are not yours to turn. If you find one false, say at which input.
  Laid BY PROGRAM, IN A SANDBOX (cutbox-rows.mjs): the forced cells as the released guide's own fill.sh prints them over the translation f20a04dc1320a326… (all of the seat's roots in one cut). By AI agents, Wed Nov 11 2026. No macro, syntax, notation, axiom, sorry.
-/
import Derived.Test.YtdbpjlconbifpabChecked
import GoSem.Claim
import GoSem.ClaimJoined
import GoSem.ClaimMapViews
import Derived.JoinedTies
import Derived.KernelRfl
namespace Go.Proofs.Ytdbpjlconbifpab
/- THE CELL 'sum', in the pinned program and in every row, IS THE sha256 OF THE DUMP (.gsa) THAT YtdbpjlconbifpabProg.lean LOADS. Nothing in Lean hashes anything: it is a label: what it is worth is what the hold of that sum in a sandbox is worth. -/
noncomputable def Try.pinned : Pinned := { name := "ytdbpjlconbifpab", sum := "f20a04dc1320a326c21fe5a1dc844d7d56f394a972782a3e45d3822b56f7a3a4", checked := Try.checked }
namespace Rows
def none {H : Type} : Left H := { results := [], args := [] }

/-- 'laws.FnExactPivotPays': WHATEVER THE INPUT: true; the input reads as it did. -/
def fnExactPivotPaysSpec : ChangeSpec := { name := "fnExactPivotPays", fn := fun _ => fun
  | [d] => { results := [.lit (.bool true)], args := [d] }
  | _ => none }
def fnExactPivotPaysRow : OpenClaim := { program := "ytdbpjlconbifpab", sum := "f20a04dc1320a326c21fe5a1dc844d7d56f394a972782a3e45d3822b56f7a3a4", func := "loop.example/salesbybids/laws.FnExactPivotPays", spec := "fnExactPivotPays", unfollowed := true, recurses := true, apart := false }
def FnExactPivotPaysSaid : Prop := fnExactPivotPaysRow.holds Try.pinned (OpenSpec.ofChange fnExactPivotPaysSpec)

/-- ITS FALSE NEIGHBOUR: 'it returns false'. Refute it at one input. -/
def fnExactPivotPaysWrong : ChangeSpec := { name := "fnExactPivotPays", fn := fun _ => fun
  | [d] => { results := [.lit (.bool false)], args := [d] }
  | _ => none }
def FnExactPivotPaysWrongFalsely : Prop := fnExactPivotPaysRow.holds Try.pinned (OpenSpec.ofChange fnExactPivotPaysWrong)

/-- 'laws.FnExactAddsOf': WHATEVER THE INPUT: true; the input reads as it did. -/
def fnExactAddsOfSpec : ChangeSpec := { name := "fnExactAddsOf", fn := fun _ => fun
  | [d] => { results := [.lit (.bool true)], args := [d] }
  | _ => none }
def fnExactAddsOfRow : OpenClaim := { program := "ytdbpjlconbifpab", sum := "f20a04dc1320a326c21fe5a1dc844d7d56f394a972782a3e45d3822b56f7a3a4", func := "loop.example/salesbybids/laws.FnExactAddsOf", spec := "fnExactAddsOf", unfollowed := true, recurses := true, apart := false }
def FnExactAddsOfSaid : Prop := fnExactAddsOfRow.holds Try.pinned (OpenSpec.ofChange fnExactAddsOfSpec)

/-- ITS FALSE NEIGHBOUR: 'it returns false'. Refute it at one input. -/
def fnExactAddsOfWrong : ChangeSpec := { name := "fnExactAddsOf", fn := fun _ => fun
  | [d] => { results := [.lit (.bool false)], args := [d] }
  | _ => none }
def FnExactAddsOfWrongFalsely : Prop := fnExactAddsOfRow.holds Try.pinned (OpenSpec.ofChange fnExactAddsOfWrong)

/-- 'laws.FnExactGainTold': WHATEVER THE INPUT: true; the input reads as it did. -/
def fnExactGainToldSpec : ChangeSpec := { name := "fnExactGainTold", fn := fun _ => fun
  | [d1, d2, d3] => { results := [.lit (.bool true)], args := [d1, d2, d3] }
  | _ => none }
def fnExactGainToldRow : OpenClaim := { program := "ytdbpjlconbifpab", sum := "f20a04dc1320a326c21fe5a1dc844d7d56f394a972782a3e45d3822b56f7a3a4", func := "loop.example/salesbybids/laws.FnExactGainTold", spec := "fnExactGainTold", unfollowed := true, recurses := true, apart := false }
def FnExactGainToldSaid : Prop := fnExactGainToldRow.holds Try.pinned (OpenSpec.ofChange fnExactGainToldSpec)

/-- ITS FALSE NEIGHBOUR: 'it returns false'. Refute it at one input. -/
def fnExactGainToldWrong : ChangeSpec := { name := "fnExactGainTold", fn := fun _ => fun
  | [d1, d2, d3] => { results := [.lit (.bool false)], args := [d1, d2, d3] }
  | _ => none }
def FnExactGainToldWrongFalsely : Prop := fnExactGainToldRow.holds Try.pinned (OpenSpec.ofChange fnExactGainToldWrong)

/-- 'laws.FnExactGainAsTwo': WHATEVER THE INPUT: true; the input reads as it did. -/
def fnExactGainAsTwoSpec : ChangeSpec := { name := "fnExactGainAsTwo", fn := fun _ => fun
  | [d1, d2, d3, d4] => { results := [.lit (.bool true)], args := [d1, d2, d3, d4] }
  | _ => none }
def fnExactGainAsTwoRow : OpenClaim := { program := "ytdbpjlconbifpab", sum := "f20a04dc1320a326c21fe5a1dc844d7d56f394a972782a3e45d3822b56f7a3a4", func := "loop.example/salesbybids/laws.FnExactGainAsTwo", spec := "fnExactGainAsTwo", unfollowed := true, recurses := true, apart := false }
def FnExactGainAsTwoSaid : Prop := fnExactGainAsTwoRow.holds Try.pinned (OpenSpec.ofChange fnExactGainAsTwoSpec)

/-- ITS FALSE NEIGHBOUR: 'it returns false'. Refute it at one input. -/
def fnExactGainAsTwoWrong : ChangeSpec := { name := "fnExactGainAsTwo", fn := fun _ => fun
  | [d1, d2, d3, d4] => { results := [.lit (.bool false)], args := [d1, d2, d3, d4] }
  | _ => none }
def FnExactGainAsTwoWrongFalsely : Prop := fnExactGainAsTwoRow.holds Try.pinned (OpenSpec.ofChange fnExactGainAsTwoWrong)

/-- 'laws.FnExactBroughtIn': WHATEVER THE INPUT: true; the input reads as it did. -/
def fnExactBroughtInSpec : ChangeSpec := { name := "fnExactBroughtIn", fn := fun _ => fun
  | [d] => { results := [.lit (.bool true)], args := [d] }
  | _ => none }
def fnExactBroughtInRow : OpenClaim := { program := "ytdbpjlconbifpab", sum := "f20a04dc1320a326c21fe5a1dc844d7d56f394a972782a3e45d3822b56f7a3a4", func := "loop.example/salesbybids/laws.FnExactBroughtIn", spec := "fnExactBroughtIn", unfollowed := true, recurses := true, apart := false }
def FnExactBroughtInSaid : Prop := fnExactBroughtInRow.holds Try.pinned (OpenSpec.ofChange fnExactBroughtInSpec)

/-- ITS FALSE NEIGHBOUR: 'it returns false'. Refute it at one input. -/
def fnExactBroughtInWrong : ChangeSpec := { name := "fnExactBroughtIn", fn := fun _ => fun
  | [d] => { results := [.lit (.bool false)], args := [d] }
  | _ => none }
def FnExactBroughtInWrongFalsely : Prop := fnExactBroughtInRow.holds Try.pinned (OpenSpec.ofChange fnExactBroughtInWrong)

/- THE SECOND FORM. 'bulk': how many values and letters a reading holds, each counted each time it is reached (what is shared counts as often as it is met; a slice's spare places count too). A statement '..UptoSaid' is the law's where the arguments, and the package variables that the reading takes, are together of bulk at most 1048576: NARROWER than '..Said'. Prove '..Said' where nothing that the law and all that it calls make is longer than what came in: it says more and counts as full. Else prove '..UptoSaid'. A law counts once. -/
mutual
def uptoBulk {H : Type} : DataW H → Nat
  | .lit (.string bytes) => bytes.length + 1
  | .lit _ => 1
  | .nil => 1
  | .ptr d => uptoBulk d + 1
  | .slice elems spare => uptoBulkAll elems + uptoBulkAll spare + 1
  | .agg parts => uptoBulkAll parts + 1
  | .iface _ d => uptoBulk d + 1
  | .map entries => uptoBulkEntries entries + 1
  | .held _ => 1
def uptoBulkAll {H : Type} : List (DataW H) → Nat
  | [] => 0
  | d :: r => uptoBulk d + uptoBulkAll r
def uptoBulkEntries {H : Type} : List (Lit × DataW H) → Nat
  | [] => 0
  | x :: r => uptoBulkEntry x + uptoBulkEntries r
def uptoBulkEntry {H : Type} : Lit × DataW H → Nat
  | (.string bytes, d) => bytes.length + uptoBulk d + 1
  | (_, d) => uptoBulk d + 1
 end
def uptoSmall : (H : Type) → List (DataW H) → Bool := fun _ ds => decide (uptoBulkAll ds ≤ 1048576)
def OpenSpec.upto (s : _root_.Go.ChangeSpec) : _root_.Go.OpenSpec := { _root_.Go.OpenSpec.ofChange s with cond := some uptoSmall }

/-- 'laws.FnExactPivotPays', WHERE WHAT IT READS IS OF BULK AT MOST 1048576: true; the input reads as it did. -/
def fnExactPivotPaysUptoRow : OpenClaim := { program := "ytdbpjlconbifpab", sum := "f20a04dc1320a326c21fe5a1dc844d7d56f394a972782a3e45d3822b56f7a3a4", func := "loop.example/salesbybids/laws.FnExactPivotPays", spec := "fnExactPivotPays", unfollowed := true, recurses := true, apart := false, narrowed := true }
def FnExactPivotPaysUptoSaid : Prop := fnExactPivotPaysUptoRow.holds Try.pinned (OpenSpec.upto fnExactPivotPaysSpec)

/-- 'laws.FnExactAddsOf', WHERE WHAT IT READS IS OF BULK AT MOST 1048576: true; the input reads as it did. -/
def fnExactAddsOfUptoRow : OpenClaim := { program := "ytdbpjlconbifpab", sum := "f20a04dc1320a326c21fe5a1dc844d7d56f394a972782a3e45d3822b56f7a3a4", func := "loop.example/salesbybids/laws.FnExactAddsOf", spec := "fnExactAddsOf", unfollowed := true, recurses := true, apart := false, narrowed := true }
def FnExactAddsOfUptoSaid : Prop := fnExactAddsOfUptoRow.holds Try.pinned (OpenSpec.upto fnExactAddsOfSpec)

/-- 'laws.FnExactGainTold', WHERE WHAT IT READS IS OF BULK AT MOST 1048576: true; the input reads as it did. -/
def fnExactGainToldUptoRow : OpenClaim := { program := "ytdbpjlconbifpab", sum := "f20a04dc1320a326c21fe5a1dc844d7d56f394a972782a3e45d3822b56f7a3a4", func := "loop.example/salesbybids/laws.FnExactGainTold", spec := "fnExactGainTold", unfollowed := true, recurses := true, apart := false, narrowed := true }
def FnExactGainToldUptoSaid : Prop := fnExactGainToldUptoRow.holds Try.pinned (OpenSpec.upto fnExactGainToldSpec)

/-- 'laws.FnExactGainAsTwo', WHERE WHAT IT READS IS OF BULK AT MOST 1048576: true; the input reads as it did. -/
def fnExactGainAsTwoUptoRow : OpenClaim := { program := "ytdbpjlconbifpab", sum := "f20a04dc1320a326c21fe5a1dc844d7d56f394a972782a3e45d3822b56f7a3a4", func := "loop.example/salesbybids/laws.FnExactGainAsTwo", spec := "fnExactGainAsTwo", unfollowed := true, recurses := true, apart := false, narrowed := true }
def FnExactGainAsTwoUptoSaid : Prop := fnExactGainAsTwoUptoRow.holds Try.pinned (OpenSpec.upto fnExactGainAsTwoSpec)

/-- 'laws.FnExactBroughtIn', WHERE WHAT IT READS IS OF BULK AT MOST 1048576: true; the input reads as it did. -/
def fnExactBroughtInUptoRow : OpenClaim := { program := "ytdbpjlconbifpab", sum := "f20a04dc1320a326c21fe5a1dc844d7d56f394a972782a3e45d3822b56f7a3a4", func := "loop.example/salesbybids/laws.FnExactBroughtIn", spec := "fnExactBroughtIn", unfollowed := true, recurses := true, apart := false, narrowed := true }
def FnExactBroughtInUptoSaid : Prop := fnExactBroughtInUptoRow.holds Try.pinned (OpenSpec.upto fnExactBroughtInSpec)

end Rows
end Go.Proofs.Ytdbpjlconbifpab
