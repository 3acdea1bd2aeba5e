/-
  No cell of these rows narrows 'for every input' (looked for: loops, veiled, ifaces, maps, wideKeys, modest, calm, conditions, laid).
  DERIVED. THE GIVEN ROWS OF THIS SEAT. 4 by the template 'for every input the law returns true; each argument reads behind the call as it read before'; 0 by the template 'total and deterministic' (their statements: YtkkdffmpeadinabTotals.lean).
  GIVEN WITH THE SEED: the statements are not yours to turn. If you find one false, say at which input.
  Laid BY PROGRAM, IN A SANDBOX (cutbox-rows.mjs): the forced cells as the released guide's own fill.sh prints them over the translation e9519473bd5a060c… (all of the seat's roots in one cut). By AI agents, Wed Nov 11 2026. No macro, syntax, notation, axiom, sorry.
-/
import Derived.Test.YtkkdffmpeadinabChecked
import GoSem.Claim
import GoSem.ClaimJoined
import GoSem.ClaimMapViews
import Derived.JoinedTies
import Derived.KernelRfl
namespace Go.Proofs.Ytkkdffmpeadinab
/- THE CELL 'sum', in the pinned program and in every row, IS THE sha256 OF THE DUMP (.gsa) THAT YtkkdffmpeadinabProg.lean LOADS. Nothing in Lean hashes anything: it is a label: what it is worth is what the hold of that sum in a sandbox is worth. -/
noncomputable def Try.pinned : Pinned := { name := "ytkkdffmpeadinab", sum := "e9519473bd5a060c7f4da4e47bfee26ebdf455625f4b291dc0ccb6de85fca576", checked := Try.checked }
namespace Rows
def none {H : Type} : Left H := { results := [], args := [] }

/-- 'laws.FnExactPivotUnits': WHATEVER THE INPUT: true; the input reads as it did. -/
def fnExactPivotUnitsSpec : ChangeSpec := { name := "fnExactPivotUnits", fn := fun _ => fun
  | [d1, d2] => { results := [.lit (.bool true)], args := [d1, d2] }
  | _ => none }
def fnExactPivotUnitsRow : OpenClaim := { program := "ytkkdffmpeadinab", sum := "e9519473bd5a060c7f4da4e47bfee26ebdf455625f4b291dc0ccb6de85fca576", func := "loop.example/salesbybids/laws.FnExactPivotUnits", spec := "fnExactPivotUnits", unfollowed := true, recurses := true, apart := false }
def FnExactPivotUnitsSaid : Prop := fnExactPivotUnitsRow.holds Try.pinned (OpenSpec.ofChange fnExactPivotUnitsSpec)

/-- ITS FALSE NEIGHBOUR: 'it returns false'. Refute it at one input. -/
def fnExactPivotUnitsWrong : ChangeSpec := { name := "fnExactPivotUnits", fn := fun _ => fun
  | [d1, d2] => { results := [.lit (.bool false)], args := [d1, d2] }
  | _ => none }
def FnExactPivotUnitsWrongFalsely : Prop := fnExactPivotUnitsRow.holds Try.pinned (OpenSpec.ofChange fnExactPivotUnitsWrong)

/-- 'laws.FnExactPushedUnits': WHATEVER THE INPUT: true; the input reads as it did. -/
def fnExactPushedUnitsSpec : ChangeSpec := { name := "fnExactPushedUnits", fn := fun _ => fun
  | [d1, d2] => { results := [.lit (.bool true)], args := [d1, d2] }
  | _ => none }
def fnExactPushedUnitsRow : OpenClaim := { program := "ytkkdffmpeadinab", sum := "e9519473bd5a060c7f4da4e47bfee26ebdf455625f4b291dc0ccb6de85fca576", func := "loop.example/salesbybids/laws.FnExactPushedUnits", spec := "fnExactPushedUnits", unfollowed := true, recurses := true, apart := false }
def FnExactPushedUnitsSaid : Prop := fnExactPushedUnitsRow.holds Try.pinned (OpenSpec.ofChange fnExactPushedUnitsSpec)

/-- ITS FALSE NEIGHBOUR: 'it returns false'. Refute it at one input. -/
def fnExactPushedUnitsWrong : ChangeSpec := { name := "fnExactPushedUnits", fn := fun _ => fun
  | [d1, d2] => { results := [.lit (.bool false)], args := [d1, d2] }
  | _ => none }
def FnExactPushedUnitsWrongFalsely : Prop := fnExactPushedUnitsRow.holds Try.pinned (OpenSpec.ofChange fnExactPushedUnitsWrong)

/-- 'laws.FnExactEachUnits': WHATEVER THE INPUT: true; the input reads as it did. -/
def fnExactEachUnitsSpec : ChangeSpec := { name := "fnExactEachUnits", fn := fun _ => fun
  | [d1, d2] => { results := [.lit (.bool true)], args := [d1, d2] }
  | _ => none }
def fnExactEachUnitsRow : OpenClaim := { program := "ytkkdffmpeadinab", sum := "e9519473bd5a060c7f4da4e47bfee26ebdf455625f4b291dc0ccb6de85fca576", func := "loop.example/salesbybids/laws.FnExactEachUnits", spec := "fnExactEachUnits", unfollowed := true, recurses := true, apart := false }
def FnExactEachUnitsSaid : Prop := fnExactEachUnitsRow.holds Try.pinned (OpenSpec.ofChange fnExactEachUnitsSpec)

/-- ITS FALSE NEIGHBOUR: 'it returns false'. Refute it at one input. -/
def fnExactEachUnitsWrong : ChangeSpec := { name := "fnExactEachUnits", fn := fun _ => fun
  | [d1, d2] => { results := [.lit (.bool false)], args := [d1, d2] }
  | _ => none }
def FnExactEachUnitsWrongFalsely : Prop := fnExactEachUnitsRow.holds Try.pinned (OpenSpec.ofChange fnExactEachUnitsWrong)

/-- 'laws.FnExactGainUnits': WHATEVER THE INPUT: true; the input reads as it did. -/
def fnExactGainUnitsSpec : ChangeSpec := { name := "fnExactGainUnits", fn := fun _ => fun
  | [d1, d2, d3, d4] => { results := [.lit (.bool true)], args := [d1, d2, d3, d4] }
  | _ => none }
def fnExactGainUnitsRow : OpenClaim := { program := "ytkkdffmpeadinab", sum := "e9519473bd5a060c7f4da4e47bfee26ebdf455625f4b291dc0ccb6de85fca576", func := "loop.example/salesbybids/laws.FnExactGainUnits", spec := "fnExactGainUnits", unfollowed := true, recurses := true, apart := false }
def FnExactGainUnitsSaid : Prop := fnExactGainUnitsRow.holds Try.pinned (OpenSpec.ofChange fnExactGainUnitsSpec)

/-- ITS FALSE NEIGHBOUR: 'it returns false'. Refute it at one input. -/
def fnExactGainUnitsWrong : ChangeSpec := { name := "fnExactGainUnits", fn := fun _ => fun
  | [d1, d2, d3, d4] => { results := [.lit (.bool false)], args := [d1, d2, d3, d4] }
  | _ => none }
def FnExactGainUnitsWrongFalsely : Prop := fnExactGainUnitsRow.holds Try.pinned (OpenSpec.ofChange fnExactGainUnitsWrong)

/- THE SECOND FORM. 'bulk': how many values and letters a reading holds, each counted each time it is reached (what is shared counts as often as it is met; a slice's spare places count too). A statement '..UptoSaid' is the law's where the arguments, and the package variables that the reading takes, are together of bulk at most 1048576: NARROWER than '..Said'. Prove '..Said' where nothing that the law and all that it calls make is longer than what came in: it says more and counts as full. Else prove '..UptoSaid'. A law counts once. -/
mutual
def uptoBulk {H : Type} : DataW H → Nat
  | .lit (.string bytes) => bytes.length + 1
  | .lit _ => 1
  | .nil => 1
  | .ptr d => uptoBulk d + 1
  | .slice elems spare => uptoBulkAll elems + uptoBulkAll spare + 1
  | .agg parts => uptoBulkAll parts + 1
  | .iface _ d => uptoBulk d + 1
  | .map entries => uptoBulkEntries entries + 1
  | .held _ => 1
def uptoBulkAll {H : Type} : List (DataW H) → Nat
  | [] => 0
  | d :: r => uptoBulk d + uptoBulkAll r
def uptoBulkEntries {H : Type} : List (Lit × DataW H) → Nat
  | [] => 0
  | x :: r => uptoBulkEntry x + uptoBulkEntries r
def uptoBulkEntry {H : Type} : Lit × DataW H → Nat
  | (.string bytes, d) => bytes.length + uptoBulk d + 1
  | (_, d) => uptoBulk d + 1
 end
def uptoSmall : (H : Type) → List (DataW H) → Bool := fun _ ds => decide (uptoBulkAll ds ≤ 1048576)
def OpenSpec.upto (s : _root_.Go.ChangeSpec) : _root_.Go.OpenSpec := { _root_.Go.OpenSpec.ofChange s with cond := some uptoSmall }

/-- 'laws.FnExactPivotUnits', WHERE WHAT IT READS IS OF BULK AT MOST 1048576: true; the input reads as it did. -/
def fnExactPivotUnitsUptoRow : OpenClaim := { program := "ytkkdffmpeadinab", sum := "e9519473bd5a060c7f4da4e47bfee26ebdf455625f4b291dc0ccb6de85fca576", func := "loop.example/salesbybids/laws.FnExactPivotUnits", spec := "fnExactPivotUnits", unfollowed := true, recurses := true, apart := false, narrowed := true }
def FnExactPivotUnitsUptoSaid : Prop := fnExactPivotUnitsUptoRow.holds Try.pinned (OpenSpec.upto fnExactPivotUnitsSpec)

/-- 'laws.FnExactPushedUnits', WHERE WHAT IT READS IS OF BULK AT MOST 1048576: true; the input reads as it did. -/
def fnExactPushedUnitsUptoRow : OpenClaim := { program := "ytkkdffmpeadinab", sum := "e9519473bd5a060c7f4da4e47bfee26ebdf455625f4b291dc0ccb6de85fca576", func := "loop.example/salesbybids/laws.FnExactPushedUnits", spec := "fnExactPushedUnits", unfollowed := true, recurses := true, apart := false, narrowed := true }
def FnExactPushedUnitsUptoSaid : Prop := fnExactPushedUnitsUptoRow.holds Try.pinned (OpenSpec.upto fnExactPushedUnitsSpec)

/-- 'laws.FnExactEachUnits', WHERE WHAT IT READS IS OF BULK AT MOST 1048576: true; the input reads as it did. -/
def fnExactEachUnitsUptoRow : OpenClaim := { program := "ytkkdffmpeadinab", sum := "e9519473bd5a060c7f4da4e47bfee26ebdf455625f4b291dc0ccb6de85fca576", func := "loop.example/salesbybids/laws.FnExactEachUnits", spec := "fnExactEachUnits", unfollowed := true, recurses := true, apart := false, narrowed := true }
def FnExactEachUnitsUptoSaid : Prop := fnExactEachUnitsUptoRow.holds Try.pinned (OpenSpec.upto fnExactEachUnitsSpec)

/-- 'laws.FnExactGainUnits', WHERE WHAT IT READS IS OF BULK AT MOST 1048576: true; the input reads as it did. -/
def fnExactGainUnitsUptoRow : OpenClaim := { program := "ytkkdffmpeadinab", sum := "e9519473bd5a060c7f4da4e47bfee26ebdf455625f4b291dc0ccb6de85fca576", func := "loop.example/salesbybids/laws.FnExactGainUnits", spec := "fnExactGainUnits", unfollowed := true, recurses := true, apart := false, narrowed := true }
def FnExactGainUnitsUptoSaid : Prop := fnExactGainUnitsUptoRow.holds Try.pinned (OpenSpec.upto fnExactGainUnitsSpec)

end Rows
end Go.Proofs.Ytkkdffmpeadinab
