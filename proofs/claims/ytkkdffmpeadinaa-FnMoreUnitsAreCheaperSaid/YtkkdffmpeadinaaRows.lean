/-
  No cell of these rows narrows 'for every input' (looked for: loops, veiled, ifaces, maps, wideKeys, modest, calm, conditions, laid).
  DERIVED. THE GIVEN ROWS OF THIS SEAT. 12 by the template 'for every input the law returns true; each argument reads behind the call as it read before'; 0 by the template 'total and deterministic' (their statements: YtkkdffmpeadinaaTotals.lean).
  GIVEN WITH THE SEED: the statements are not yours to turn. If you find one false, say at which input.
  Laid BY PROGRAM, IN A SANDBOX (cutbox-rows.mjs): the forced cells as the released guide's own fill.sh prints them over the translation ec3ece4dca3cb770… (all of the seat's roots in one cut). By AI agents, Wed Nov 11 2026. No macro, syntax, notation, axiom, sorry.
-/
import Derived.Test.YtkkdffmpeadinaaChecked
import GoSem.Claim
import GoSem.ClaimJoined
import GoSem.ClaimMapViews
import Derived.JoinedTies
import Derived.KernelRfl
namespace Go.Proofs.Ytkkdffmpeadinaa
/- THE CELL 'sum', in the pinned program and in every row, IS THE sha256 OF THE DUMP (.gsa) THAT YtkkdffmpeadinaaProg.lean LOADS. Nothing in Lean hashes anything: it is a label: what it is worth is what the hold of that sum in a sandbox is worth. -/
noncomputable def Try.pinned : Pinned := { name := "ytkkdffmpeadinaa", sum := "ec3ece4dca3cb770a961a5ae9fdc39c3c1cf6612543894f3c7b4827e1342dd1b", checked := Try.checked }
namespace Rows
def none {H : Type} : Left H := { results := [], args := [] }

/-- 'laws.FnValidDemands': WHATEVER THE INPUT: true; the input reads as it did. -/
def fnValidDemandsSpec : ChangeSpec := { name := "fnValidDemands", fn := fun _ => fun
  | [d] => { results := [.lit (.bool true)], args := [d] }
  | _ => none }
def fnValidDemandsRow : OpenClaim := { program := "ytkkdffmpeadinaa", sum := "ec3ece4dca3cb770a961a5ae9fdc39c3c1cf6612543894f3c7b4827e1342dd1b", func := "loop.example/salesbybids/laws.FnValidDemands", spec := "fnValidDemands", apart := false }
def FnValidDemandsSaid : Prop := fnValidDemandsRow.holds Try.pinned (OpenSpec.ofChange fnValidDemandsSpec)

/-- ITS FALSE NEIGHBOUR: 'it returns false'. Refute it at one input. -/
def fnValidDemandsWrong : ChangeSpec := { name := "fnValidDemands", fn := fun _ => fun
  | [d] => { results := [.lit (.bool false)], args := [d] }
  | _ => none }
def FnValidDemandsWrongFalsely : Prop := fnValidDemandsRow.holds Try.pinned (OpenSpec.ofChange fnValidDemandsWrong)

/-- 'laws.FnAwardUnits': WHATEVER THE INPUT: true; the input reads as it did. -/
def fnAwardUnitsSpec : ChangeSpec := { name := "fnAwardUnits", fn := fun _ => fun
  | [d] => { results := [.lit (.bool true)], args := [d] }
  | _ => none }
def fnAwardUnitsRow : OpenClaim := { program := "ytkkdffmpeadinaa", sum := "ec3ece4dca3cb770a961a5ae9fdc39c3c1cf6612543894f3c7b4827e1342dd1b", func := "loop.example/salesbybids/laws.FnAwardUnits", spec := "fnAwardUnits", unfollowed := true, recurses := true, apart := false }
def FnAwardUnitsSaid : Prop := fnAwardUnitsRow.holds Try.pinned (OpenSpec.ofChange fnAwardUnitsSpec)

/-- ITS FALSE NEIGHBOUR: 'it returns false'. Refute it at one input. -/
def fnAwardUnitsWrong : ChangeSpec := { name := "fnAwardUnits", fn := fun _ => fun
  | [d] => { results := [.lit (.bool false)], args := [d] }
  | _ => none }
def FnAwardUnitsWrongFalsely : Prop := fnAwardUnitsRow.holds Try.pinned (OpenSpec.ofChange fnAwardUnitsWrong)

/-- 'laws.FnWorthOf': WHATEVER THE INPUT: true; the input reads as it did. -/
def fnWorthOfSpec : ChangeSpec := { name := "fnWorthOf", fn := fun _ => fun
  | [d] => { results := [.lit (.bool true)], args := [d] }
  | _ => none }
def fnWorthOfRow : OpenClaim := { program := "ytkkdffmpeadinaa", sum := "ec3ece4dca3cb770a961a5ae9fdc39c3c1cf6612543894f3c7b4827e1342dd1b", func := "loop.example/salesbybids/laws.FnWorthOf", spec := "fnWorthOf", unfollowed := true, recurses := true, apart := false }
def FnWorthOfSaid : Prop := fnWorthOfRow.holds Try.pinned (OpenSpec.ofChange fnWorthOfSpec)

/-- ITS FALSE NEIGHBOUR: 'it returns false'. Refute it at one input. -/
def fnWorthOfWrong : ChangeSpec := { name := "fnWorthOf", fn := fun _ => fun
  | [d] => { results := [.lit (.bool false)], args := [d] }
  | _ => none }
def FnWorthOfWrongFalsely : Prop := fnWorthOfRow.holds Try.pinned (OpenSpec.ofChange fnWorthOfWrong)

/-- 'laws.FnPushedUnits': WHATEVER THE INPUT: true; the input reads as it did. -/
def fnPushedUnitsSpec : ChangeSpec := { name := "fnPushedUnits", fn := fun _ => fun
  | [d] => { results := [.lit (.bool true)], args := [d] }
  | _ => none }
def fnPushedUnitsRow : OpenClaim := { program := "ytkkdffmpeadinaa", sum := "ec3ece4dca3cb770a961a5ae9fdc39c3c1cf6612543894f3c7b4827e1342dd1b", func := "loop.example/salesbybids/laws.FnPushedUnits", spec := "fnPushedUnits", unfollowed := true, recurses := true, apart := false }
def FnPushedUnitsSaid : Prop := fnPushedUnitsRow.holds Try.pinned (OpenSpec.ofChange fnPushedUnitsSpec)

/-- ITS FALSE NEIGHBOUR: 'it returns false'. Refute it at one input. -/
def fnPushedUnitsWrong : ChangeSpec := { name := "fnPushedUnits", fn := fun _ => fun
  | [d] => { results := [.lit (.bool false)], args := [d] }
  | _ => none }
def FnPushedUnitsWrongFalsely : Prop := fnPushedUnitsRow.holds Try.pinned (OpenSpec.ofChange fnPushedUnitsWrong)

/-- 'laws.FnEachUnits': WHATEVER THE INPUT: true; the input reads as it did. -/
def fnEachUnitsSpec : ChangeSpec := { name := "fnEachUnits", fn := fun _ => fun
  | [d] => { results := [.lit (.bool true)], args := [d] }
  | _ => none }
def fnEachUnitsRow : OpenClaim := { program := "ytkkdffmpeadinaa", sum := "ec3ece4dca3cb770a961a5ae9fdc39c3c1cf6612543894f3c7b4827e1342dd1b", func := "loop.example/salesbybids/laws.FnEachUnits", spec := "fnEachUnits", unfollowed := true, recurses := true, apart := false }
def FnEachUnitsSaid : Prop := fnEachUnitsRow.holds Try.pinned (OpenSpec.ofChange fnEachUnitsSpec)

/-- ITS FALSE NEIGHBOUR: 'it returns false'. Refute it at one input. -/
def fnEachUnitsWrong : ChangeSpec := { name := "fnEachUnits", fn := fun _ => fun
  | [d] => { results := [.lit (.bool false)], args := [d] }
  | _ => none }
def FnEachUnitsWrongFalsely : Prop := fnEachUnitsRow.holds Try.pinned (OpenSpec.ofChange fnEachUnitsWrong)

/-- 'laws.FnGainUnits': WHATEVER THE INPUT: true; the input reads as it did. -/
def fnGainUnitsSpec : ChangeSpec := { name := "fnGainUnits", fn := fun _ => fun
  | [d] => { results := [.lit (.bool true)], args := [d] }
  | _ => none }
def fnGainUnitsRow : OpenClaim := { program := "ytkkdffmpeadinaa", sum := "ec3ece4dca3cb770a961a5ae9fdc39c3c1cf6612543894f3c7b4827e1342dd1b", func := "loop.example/salesbybids/laws.FnGainUnits", spec := "fnGainUnits", unfollowed := true, recurses := true, apart := false }
def FnGainUnitsSaid : Prop := fnGainUnitsRow.holds Try.pinned (OpenSpec.ofChange fnGainUnitsSpec)

/-- ITS FALSE NEIGHBOUR: 'it returns false'. Refute it at one input. -/
def fnGainUnitsWrong : ChangeSpec := { name := "fnGainUnits", fn := fun _ => fun
  | [d] => { results := [.lit (.bool false)], args := [d] }
  | _ => none }
def FnGainUnitsWrongFalsely : Prop := fnGainUnitsRow.holds Try.pinned (OpenSpec.ofChange fnGainUnitsWrong)

/-- 'laws.FnTruthIsAdded': WHATEVER THE INPUT: true; the input reads as it did. -/
def fnTruthIsAddedSpec : ChangeSpec := { name := "fnTruthIsAdded", fn := fun _ => fun
  | [d] => { results := [.lit (.bool true)], args := [d] }
  | _ => none }
def fnTruthIsAddedRow : OpenClaim := { program := "ytkkdffmpeadinaa", sum := "ec3ece4dca3cb770a961a5ae9fdc39c3c1cf6612543894f3c7b4827e1342dd1b", func := "loop.example/salesbybids/laws.FnTruthIsAdded", spec := "fnTruthIsAdded", unfollowed := true, recurses := true, apart := false }
def FnTruthIsAddedSaid : Prop := fnTruthIsAddedRow.holds Try.pinned (OpenSpec.ofChange fnTruthIsAddedSpec)

/-- ITS FALSE NEIGHBOUR: 'it returns false'. Refute it at one input. -/
def fnTruthIsAddedWrong : ChangeSpec := { name := "fnTruthIsAdded", fn := fun _ => fun
  | [d] => { results := [.lit (.bool false)], args := [d] }
  | _ => none }
def FnTruthIsAddedWrongFalsely : Prop := fnTruthIsAddedRow.holds Try.pinned (OpenSpec.ofChange fnTruthIsAddedWrong)

/-- 'laws.FnMoreUnitsAreCheaper': WHATEVER THE INPUT: true; the input reads as it did. -/
def fnMoreUnitsAreCheaperSpec : ChangeSpec := { name := "fnMoreUnitsAreCheaper", fn := fun _ => fun
  | [d] => { results := [.lit (.bool true)], args := [d] }
  | _ => none }
def fnMoreUnitsAreCheaperRow : OpenClaim := { program := "ytkkdffmpeadinaa", sum := "ec3ece4dca3cb770a961a5ae9fdc39c3c1cf6612543894f3c7b4827e1342dd1b", func := "loop.example/salesbybids/laws.FnMoreUnitsAreCheaper", spec := "fnMoreUnitsAreCheaper", unfollowed := true, recurses := true, apart := false }
def FnMoreUnitsAreCheaperSaid : Prop := fnMoreUnitsAreCheaperRow.holds Try.pinned (OpenSpec.ofChange fnMoreUnitsAreCheaperSpec)

/-- ITS FALSE NEIGHBOUR: 'it returns false'. Refute it at one input. -/
def fnMoreUnitsAreCheaperWrong : ChangeSpec := { name := "fnMoreUnitsAreCheaper", fn := fun _ => fun
  | [d] => { results := [.lit (.bool false)], args := [d] }
  | _ => none }
def FnMoreUnitsAreCheaperWrongFalsely : Prop := fnMoreUnitsAreCheaperRow.holds Try.pinned (OpenSpec.ofChange fnMoreUnitsAreCheaperWrong)

/-- 'laws.FnExactValidDemands': WHATEVER THE INPUT: true; the input reads as it did. -/
def fnExactValidDemandsSpec : ChangeSpec := { name := "fnExactValidDemands", fn := fun _ => fun
  | [d] => { results := [.lit (.bool true)], args := [d] }
  | _ => none }
def fnExactValidDemandsRow : OpenClaim := { program := "ytkkdffmpeadinaa", sum := "ec3ece4dca3cb770a961a5ae9fdc39c3c1cf6612543894f3c7b4827e1342dd1b", func := "loop.example/salesbybids/laws.FnExactValidDemands", spec := "fnExactValidDemands", apart := false }
def FnExactValidDemandsSaid : Prop := fnExactValidDemandsRow.holds Try.pinned (OpenSpec.ofChange fnExactValidDemandsSpec)

/-- ITS FALSE NEIGHBOUR: 'it returns false'. Refute it at one input. -/
def fnExactValidDemandsWrong : ChangeSpec := { name := "fnExactValidDemands", fn := fun _ => fun
  | [d] => { results := [.lit (.bool false)], args := [d] }
  | _ => none }
def FnExactValidDemandsWrongFalsely : Prop := fnExactValidDemandsRow.holds Try.pinned (OpenSpec.ofChange fnExactValidDemandsWrong)

/-- 'laws.FnExactAwardUnits': WHATEVER THE INPUT: true; the input reads as it did. -/
def fnExactAwardUnitsSpec : ChangeSpec := { name := "fnExactAwardUnits", fn := fun _ => fun
  | [d1, d2] => { results := [.lit (.bool true)], args := [d1, d2] }
  | _ => none }
def fnExactAwardUnitsRow : OpenClaim := { program := "ytkkdffmpeadinaa", sum := "ec3ece4dca3cb770a961a5ae9fdc39c3c1cf6612543894f3c7b4827e1342dd1b", func := "loop.example/salesbybids/laws.FnExactAwardUnits", spec := "fnExactAwardUnits", apart := false }
def FnExactAwardUnitsSaid : Prop := fnExactAwardUnitsRow.holds Try.pinned (OpenSpec.ofChange fnExactAwardUnitsSpec)

/-- ITS FALSE NEIGHBOUR: 'it returns false'. Refute it at one input. -/
def fnExactAwardUnitsWrong : ChangeSpec := { name := "fnExactAwardUnits", fn := fun _ => fun
  | [d1, d2] => { results := [.lit (.bool false)], args := [d1, d2] }
  | _ => none }
def FnExactAwardUnitsWrongFalsely : Prop := fnExactAwardUnitsRow.holds Try.pinned (OpenSpec.ofChange fnExactAwardUnitsWrong)

/-- 'laws.FnExactWorthOf': WHATEVER THE INPUT: true; the input reads as it did. -/
def fnExactWorthOfSpec : ChangeSpec := { name := "fnExactWorthOf", fn := fun _ => fun
  | [d1, d2] => { results := [.lit (.bool true)], args := [d1, d2] }
  | _ => none }
def fnExactWorthOfRow : OpenClaim := { program := "ytkkdffmpeadinaa", sum := "ec3ece4dca3cb770a961a5ae9fdc39c3c1cf6612543894f3c7b4827e1342dd1b", func := "loop.example/salesbybids/laws.FnExactWorthOf", spec := "fnExactWorthOf", unfollowed := true, recurses := true, apart := false }
def FnExactWorthOfSaid : Prop := fnExactWorthOfRow.holds Try.pinned (OpenSpec.ofChange fnExactWorthOfSpec)

/-- ITS FALSE NEIGHBOUR: 'it returns false'. Refute it at one input. -/
def fnExactWorthOfWrong : ChangeSpec := { name := "fnExactWorthOf", fn := fun _ => fun
  | [d1, d2] => { results := [.lit (.bool false)], args := [d1, d2] }
  | _ => none }
def FnExactWorthOfWrongFalsely : Prop := fnExactWorthOfRow.holds Try.pinned (OpenSpec.ofChange fnExactWorthOfWrong)

/-- 'laws.FnExactOnePrice': WHATEVER THE INPUT: true; the input reads as it did. -/
def fnExactOnePriceSpec : ChangeSpec := { name := "fnExactOnePrice", fn := fun _ => fun
  | [d1, d2] => { results := [.lit (.bool true)], args := [d1, d2] }
  | _ => none }
def fnExactOnePriceRow : OpenClaim := { program := "ytkkdffmpeadinaa", sum := "ec3ece4dca3cb770a961a5ae9fdc39c3c1cf6612543894f3c7b4827e1342dd1b", func := "loop.example/salesbybids/laws.FnExactOnePrice", spec := "fnExactOnePrice", recurses := true, apart := false }
def FnExactOnePriceSaid : Prop := fnExactOnePriceRow.holds Try.pinned (OpenSpec.ofChange fnExactOnePriceSpec)

/-- ITS FALSE NEIGHBOUR: 'it returns false'. Refute it at one input. -/
def fnExactOnePriceWrong : ChangeSpec := { name := "fnExactOnePrice", fn := fun _ => fun
  | [d1, d2] => { results := [.lit (.bool false)], args := [d1, d2] }
  | _ => none }
def FnExactOnePriceWrongFalsely : Prop := fnExactOnePriceRow.holds Try.pinned (OpenSpec.ofChange fnExactOnePriceWrong)

/- THE SECOND FORM. 'bulk': how many values and letters a reading holds, each counted each time it is reached (what is shared counts as often as it is met; a slice's spare places count too). A statement '..UptoSaid' is the law's where the arguments, and the package variables that the reading takes, are together of bulk at most 1048576: NARROWER than '..Said'. Prove '..Said' where nothing that the law and all that it calls make is longer than what came in: it says more and counts as full. Else prove '..UptoSaid'. A law counts once. -/
mutual
def uptoBulk {H : Type} : DataW H → Nat
  | .lit (.string bytes) => bytes.length + 1
  | .lit _ => 1
  | .nil => 1
  | .ptr d => uptoBulk d + 1
  | .slice elems spare => uptoBulkAll elems + uptoBulkAll spare + 1
  | .agg parts => uptoBulkAll parts + 1
  | .iface _ d => uptoBulk d + 1
  | .map entries => uptoBulkEntries entries + 1
  | .held _ => 1
def uptoBulkAll {H : Type} : List (DataW H) → Nat
  | [] => 0
  | d :: r => uptoBulk d + uptoBulkAll r
def uptoBulkEntries {H : Type} : List (Lit × DataW H) → Nat
  | [] => 0
  | x :: r => uptoBulkEntry x + uptoBulkEntries r
def uptoBulkEntry {H : Type} : Lit × DataW H → Nat
  | (.string bytes, d) => bytes.length + uptoBulk d + 1
  | (_, d) => uptoBulk d + 1
 end
def uptoSmall : (H : Type) → List (DataW H) → Bool := fun _ ds => decide (uptoBulkAll ds ≤ 1048576)
def OpenSpec.upto (s : _root_.Go.ChangeSpec) : _root_.Go.OpenSpec := { _root_.Go.OpenSpec.ofChange s with cond := some uptoSmall }

/-- 'laws.FnValidDemands', WHERE WHAT IT READS IS OF BULK AT MOST 1048576: true; the input reads as it did. -/
def fnValidDemandsUptoRow : OpenClaim := { program := "ytkkdffmpeadinaa", sum := "ec3ece4dca3cb770a961a5ae9fdc39c3c1cf6612543894f3c7b4827e1342dd1b", func := "loop.example/salesbybids/laws.FnValidDemands", spec := "fnValidDemands", apart := false, narrowed := true }
def FnValidDemandsUptoSaid : Prop := fnValidDemandsUptoRow.holds Try.pinned (OpenSpec.upto fnValidDemandsSpec)

/-- 'laws.FnAwardUnits', WHERE WHAT IT READS IS OF BULK AT MOST 1048576: true; the input reads as it did. -/
def fnAwardUnitsUptoRow : OpenClaim := { program := "ytkkdffmpeadinaa", sum := "ec3ece4dca3cb770a961a5ae9fdc39c3c1cf6612543894f3c7b4827e1342dd1b", func := "loop.example/salesbybids/laws.FnAwardUnits", spec := "fnAwardUnits", unfollowed := true, recurses := true, apart := false, narrowed := true }
def FnAwardUnitsUptoSaid : Prop := fnAwardUnitsUptoRow.holds Try.pinned (OpenSpec.upto fnAwardUnitsSpec)

/-- 'laws.FnWorthOf', WHERE WHAT IT READS IS OF BULK AT MOST 1048576: true; the input reads as it did. -/
def fnWorthOfUptoRow : OpenClaim := { program := "ytkkdffmpeadinaa", sum := "ec3ece4dca3cb770a961a5ae9fdc39c3c1cf6612543894f3c7b4827e1342dd1b", func := "loop.example/salesbybids/laws.FnWorthOf", spec := "fnWorthOf", unfollowed := true, recurses := true, apart := false, narrowed := true }
def FnWorthOfUptoSaid : Prop := fnWorthOfUptoRow.holds Try.pinned (OpenSpec.upto fnWorthOfSpec)

/-- 'laws.FnPushedUnits', WHERE WHAT IT READS IS OF BULK AT MOST 1048576: true; the input reads as it did. -/
def fnPushedUnitsUptoRow : OpenClaim := { program := "ytkkdffmpeadinaa", sum := "ec3ece4dca3cb770a961a5ae9fdc39c3c1cf6612543894f3c7b4827e1342dd1b", func := "loop.example/salesbybids/laws.FnPushedUnits", spec := "fnPushedUnits", unfollowed := true, recurses := true, apart := false, narrowed := true }
def FnPushedUnitsUptoSaid : Prop := fnPushedUnitsUptoRow.holds Try.pinned (OpenSpec.upto fnPushedUnitsSpec)

/-- 'laws.FnEachUnits', WHERE WHAT IT READS IS OF BULK AT MOST 1048576: true; the input reads as it did. -/
def fnEachUnitsUptoRow : OpenClaim := { program := "ytkkdffmpeadinaa", sum := "ec3ece4dca3cb770a961a5ae9fdc39c3c1cf6612543894f3c7b4827e1342dd1b", func := "loop.example/salesbybids/laws.FnEachUnits", spec := "fnEachUnits", unfollowed := true, recurses := true, apart := false, narrowed := true }
def FnEachUnitsUptoSaid : Prop := fnEachUnitsUptoRow.holds Try.pinned (OpenSpec.upto fnEachUnitsSpec)

/-- 'laws.FnGainUnits', WHERE WHAT IT READS IS OF BULK AT MOST 1048576: true; the input reads as it did. -/
def fnGainUnitsUptoRow : OpenClaim := { program := "ytkkdffmpeadinaa", sum := "ec3ece4dca3cb770a961a5ae9fdc39c3c1cf6612543894f3c7b4827e1342dd1b", func := "loop.example/salesbybids/laws.FnGainUnits", spec := "fnGainUnits", unfollowed := true, recurses := true, apart := false, narrowed := true }
def FnGainUnitsUptoSaid : Prop := fnGainUnitsUptoRow.holds Try.pinned (OpenSpec.upto fnGainUnitsSpec)

/-- 'laws.FnTruthIsAdded', WHERE WHAT IT READS IS OF BULK AT MOST 1048576: true; the input reads as it did. -/
def fnTruthIsAddedUptoRow : OpenClaim := { program := "ytkkdffmpeadinaa", sum := "ec3ece4dca3cb770a961a5ae9fdc39c3c1cf6612543894f3c7b4827e1342dd1b", func := "loop.example/salesbybids/laws.FnTruthIsAdded", spec := "fnTruthIsAdded", unfollowed := true, recurses := true, apart := false, narrowed := true }
def FnTruthIsAddedUptoSaid : Prop := fnTruthIsAddedUptoRow.holds Try.pinned (OpenSpec.upto fnTruthIsAddedSpec)

/-- 'laws.FnMoreUnitsAreCheaper', WHERE WHAT IT READS IS OF BULK AT MOST 1048576: true; the input reads as it did. -/
def fnMoreUnitsAreCheaperUptoRow : OpenClaim := { program := "ytkkdffmpeadinaa", sum := "ec3ece4dca3cb770a961a5ae9fdc39c3c1cf6612543894f3c7b4827e1342dd1b", func := "loop.example/salesbybids/laws.FnMoreUnitsAreCheaper", spec := "fnMoreUnitsAreCheaper", unfollowed := true, recurses := true, apart := false, narrowed := true }
def FnMoreUnitsAreCheaperUptoSaid : Prop := fnMoreUnitsAreCheaperUptoRow.holds Try.pinned (OpenSpec.upto fnMoreUnitsAreCheaperSpec)

/-- 'laws.FnExactValidDemands', WHERE WHAT IT READS IS OF BULK AT MOST 1048576: true; the input reads as it did. -/
def fnExactValidDemandsUptoRow : OpenClaim := { program := "ytkkdffmpeadinaa", sum := "ec3ece4dca3cb770a961a5ae9fdc39c3c1cf6612543894f3c7b4827e1342dd1b", func := "loop.example/salesbybids/laws.FnExactValidDemands", spec := "fnExactValidDemands", apart := false, narrowed := true }
def FnExactValidDemandsUptoSaid : Prop := fnExactValidDemandsUptoRow.holds Try.pinned (OpenSpec.upto fnExactValidDemandsSpec)

/-- 'laws.FnExactAwardUnits', WHERE WHAT IT READS IS OF BULK AT MOST 1048576: true; the input reads as it did. -/
def fnExactAwardUnitsUptoRow : OpenClaim := { program := "ytkkdffmpeadinaa", sum := "ec3ece4dca3cb770a961a5ae9fdc39c3c1cf6612543894f3c7b4827e1342dd1b", func := "loop.example/salesbybids/laws.FnExactAwardUnits", spec := "fnExactAwardUnits", apart := false, narrowed := true }
def FnExactAwardUnitsUptoSaid : Prop := fnExactAwardUnitsUptoRow.holds Try.pinned (OpenSpec.upto fnExactAwardUnitsSpec)

/-- 'laws.FnExactWorthOf', WHERE WHAT IT READS IS OF BULK AT MOST 1048576: true; the input reads as it did. -/
def fnExactWorthOfUptoRow : OpenClaim := { program := "ytkkdffmpeadinaa", sum := "ec3ece4dca3cb770a961a5ae9fdc39c3c1cf6612543894f3c7b4827e1342dd1b", func := "loop.example/salesbybids/laws.FnExactWorthOf", spec := "fnExactWorthOf", unfollowed := true, recurses := true, apart := false, narrowed := true }
def FnExactWorthOfUptoSaid : Prop := fnExactWorthOfUptoRow.holds Try.pinned (OpenSpec.upto fnExactWorthOfSpec)

/-- 'laws.FnExactOnePrice', WHERE WHAT IT READS IS OF BULK AT MOST 1048576: true; the input reads as it did. -/
def fnExactOnePriceUptoRow : OpenClaim := { program := "ytkkdffmpeadinaa", sum := "ec3ece4dca3cb770a961a5ae9fdc39c3c1cf6612543894f3c7b4827e1342dd1b", func := "loop.example/salesbybids/laws.FnExactOnePrice", spec := "fnExactOnePrice", recurses := true, apart := false, narrowed := true }
def FnExactOnePriceUptoSaid : Prop := fnExactOnePriceUptoRow.holds Try.pinned (OpenSpec.upto fnExactOnePriceSpec)

end Rows
end Go.Proofs.Ytkkdffmpeadinaa
