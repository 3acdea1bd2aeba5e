/-
  No cell of these rows narrows 'for every input' (looked for: loops, veiled, ifaces, maps, wideKeys, modest, calm, conditions, laid).
  DERIVED. THE GIVEN ROWS OF THIS SEAT. 6 by the template 'for every input the law returns true; each argument reads behind the call as it read before'; 0 by the template 'total and deterministic' (their statements: YtdbpjlconbifpaaTotals.lean).
  GIVEN WITH THE SEED: the statements are not yours to turn. If you find one false, say at which input.
  Laid BY PROGRAM, IN A SANDBOX (cutbox-rows.mjs): the forced cells as the released guide's own fill.sh prints them over the translation d674993b9b3d9ec5… (all of the seat's roots in one cut). By AI agents, Wed Nov 11 2026. No macro, syntax, notation, axiom, sorry.
-/
import Derived.Test.YtdbpjlconbifpaaChecked
import GoSem.Claim
import GoSem.ClaimJoined
import GoSem.ClaimMapViews
import Derived.JoinedTies
import Derived.KernelRfl
namespace Go.Proofs.Ytdbpjlconbifpaa
/- THE CELL 'sum', in the pinned program and in every row, IS THE sha256 OF THE DUMP (.gsa) THAT YtdbpjlconbifpaaProg.lean LOADS. Nothing in Lean hashes anything: it is a label: what it is worth is what the hold of that sum in a sandbox is worth. -/
noncomputable def Try.pinned : Pinned := { name := "ytdbpjlconbifpaa", sum := "d674993b9b3d9ec5c6a51e5807bcb809837aee30f3dae8efac8248dcf6b4753d", checked := Try.checked }
namespace Rows
def none {H : Type} : Left H := { results := [], args := [] }

/-- 'laws.FnSplitWorth': WHATEVER THE INPUT: true; the input reads as it did. -/
def fnSplitWorthSpec : ChangeSpec := { name := "fnSplitWorth", fn := fun _ => fun
  | [d] => { results := [.lit (.bool true)], args := [d] }
  | _ => none }
def fnSplitWorthRow : OpenClaim := { program := "ytdbpjlconbifpaa", sum := "d674993b9b3d9ec5c6a51e5807bcb809837aee30f3dae8efac8248dcf6b4753d", func := "loop.example/salesbybids/laws.FnSplitWorth", spec := "fnSplitWorth", unfollowed := true, recurses := true, apart := false }
def FnSplitWorthSaid : Prop := fnSplitWorthRow.holds Try.pinned (OpenSpec.ofChange fnSplitWorthSpec)

/-- ITS FALSE NEIGHBOUR: 'it returns false'. Refute it at one input. -/
def fnSplitWorthWrong : ChangeSpec := { name := "fnSplitWorth", fn := fun _ => fun
  | [d] => { results := [.lit (.bool false)], args := [d] }
  | _ => none }
def FnSplitWorthWrongFalsely : Prop := fnSplitWorthRow.holds Try.pinned (OpenSpec.ofChange fnSplitWorthWrong)

/-- 'laws.FnBestSplit': WHATEVER THE INPUT: true; the input reads as it did. -/
def fnBestSplitSpec : ChangeSpec := { name := "fnBestSplit", fn := fun _ => fun
  | [d] => { results := [.lit (.bool true)], args := [d] }
  | _ => none }
def fnBestSplitRow : OpenClaim := { program := "ytdbpjlconbifpaa", sum := "d674993b9b3d9ec5c6a51e5807bcb809837aee30f3dae8efac8248dcf6b4753d", func := "loop.example/salesbybids/laws.FnBestSplit", spec := "fnBestSplit", unfollowed := true, recurses := true, apart := false }
def FnBestSplitSaid : Prop := fnBestSplitRow.holds Try.pinned (OpenSpec.ofChange fnBestSplitSpec)

/-- ITS FALSE NEIGHBOUR: 'it returns false'. Refute it at one input. -/
def fnBestSplitWrong : ChangeSpec := { name := "fnBestSplit", fn := fun _ => fun
  | [d] => { results := [.lit (.bool false)], args := [d] }
  | _ => none }
def FnBestSplitWrongFalsely : Prop := fnBestSplitRow.holds Try.pinned (OpenSpec.ofChange fnBestSplitWrong)

/-- 'laws.FnPivotPays': WHATEVER THE INPUT: true; the input reads as it did. -/
def fnPivotPaysSpec : ChangeSpec := { name := "fnPivotPays", fn := fun _ => fun
  | [d] => { results := [.lit (.bool true)], args := [d] }
  | _ => none }
def fnPivotPaysRow : OpenClaim := { program := "ytdbpjlconbifpaa", sum := "d674993b9b3d9ec5c6a51e5807bcb809837aee30f3dae8efac8248dcf6b4753d", func := "loop.example/salesbybids/laws.FnPivotPays", spec := "fnPivotPays", unfollowed := true, recurses := true, apart := false }
def FnPivotPaysSaid : Prop := fnPivotPaysRow.holds Try.pinned (OpenSpec.ofChange fnPivotPaysSpec)

/-- ITS FALSE NEIGHBOUR: 'it returns false'. Refute it at one input. -/
def fnPivotPaysWrong : ChangeSpec := { name := "fnPivotPays", fn := fun _ => fun
  | [d] => { results := [.lit (.bool false)], args := [d] }
  | _ => none }
def FnPivotPaysWrongFalsely : Prop := fnPivotPaysRow.holds Try.pinned (OpenSpec.ofChange fnPivotPaysWrong)

/-- 'laws.FnAddsOf': WHATEVER THE INPUT: true; the input reads as it did. -/
def fnAddsOfSpec : ChangeSpec := { name := "fnAddsOf", fn := fun _ => fun
  | [d] => { results := [.lit (.bool true)], args := [d] }
  | _ => none }
def fnAddsOfRow : OpenClaim := { program := "ytdbpjlconbifpaa", sum := "d674993b9b3d9ec5c6a51e5807bcb809837aee30f3dae8efac8248dcf6b4753d", func := "loop.example/salesbybids/laws.FnAddsOf", spec := "fnAddsOf", unfollowed := true, recurses := true, apart := false }
def FnAddsOfSaid : Prop := fnAddsOfRow.holds Try.pinned (OpenSpec.ofChange fnAddsOfSpec)

/-- ITS FALSE NEIGHBOUR: 'it returns false'. Refute it at one input. -/
def fnAddsOfWrong : ChangeSpec := { name := "fnAddsOf", fn := fun _ => fun
  | [d] => { results := [.lit (.bool false)], args := [d] }
  | _ => none }
def FnAddsOfWrongFalsely : Prop := fnAddsOfRow.holds Try.pinned (OpenSpec.ofChange fnAddsOfWrong)

/-- 'laws.FnGainTold': WHATEVER THE INPUT: true; the input reads as it did. -/
def fnGainToldSpec : ChangeSpec := { name := "fnGainTold", fn := fun _ => fun
  | [d] => { results := [.lit (.bool true)], args := [d] }
  | _ => none }
def fnGainToldRow : OpenClaim := { program := "ytdbpjlconbifpaa", sum := "d674993b9b3d9ec5c6a51e5807bcb809837aee30f3dae8efac8248dcf6b4753d", func := "loop.example/salesbybids/laws.FnGainTold", spec := "fnGainTold", unfollowed := true, recurses := true, apart := false }
def FnGainToldSaid : Prop := fnGainToldRow.holds Try.pinned (OpenSpec.ofChange fnGainToldSpec)

/-- ITS FALSE NEIGHBOUR: 'it returns false'. Refute it at one input. -/
def fnGainToldWrong : ChangeSpec := { name := "fnGainTold", fn := fun _ => fun
  | [d] => { results := [.lit (.bool false)], args := [d] }
  | _ => none }
def FnGainToldWrongFalsely : Prop := fnGainToldRow.holds Try.pinned (OpenSpec.ofChange fnGainToldWrong)

/-- 'laws.FnBroughtIn': WHATEVER THE INPUT: true; the input reads as it did. -/
def fnBroughtInSpec : ChangeSpec := { name := "fnBroughtIn", fn := fun _ => fun
  | [d] => { results := [.lit (.bool true)], args := [d] }
  | _ => none }
def fnBroughtInRow : OpenClaim := { program := "ytdbpjlconbifpaa", sum := "d674993b9b3d9ec5c6a51e5807bcb809837aee30f3dae8efac8248dcf6b4753d", func := "loop.example/salesbybids/laws.FnBroughtIn", spec := "fnBroughtIn", unfollowed := true, recurses := true, apart := false }
def FnBroughtInSaid : Prop := fnBroughtInRow.holds Try.pinned (OpenSpec.ofChange fnBroughtInSpec)

/-- ITS FALSE NEIGHBOUR: 'it returns false'. Refute it at one input. -/
def fnBroughtInWrong : ChangeSpec := { name := "fnBroughtIn", fn := fun _ => fun
  | [d] => { results := [.lit (.bool false)], args := [d] }
  | _ => none }
def FnBroughtInWrongFalsely : Prop := fnBroughtInRow.holds Try.pinned (OpenSpec.ofChange fnBroughtInWrong)

/- THE SECOND FORM. 'bulk': how many values and letters a reading holds, each counted each time it is reached (what is shared counts as often as it is met; a slice's spare places count too). A statement '..UptoSaid' is the law's where the arguments, and the package variables that the reading takes, are together of bulk at most 1048576: NARROWER than '..Said'. Prove '..Said' where nothing that the law and all that it calls make is longer than what came in: it says more and counts as full. Else prove '..UptoSaid'. A law counts once. -/
mutual
def uptoBulk {H : Type} : DataW H → Nat
  | .lit (.string bytes) => bytes.length + 1
  | .lit _ => 1
  | .nil => 1
  | .ptr d => uptoBulk d + 1
  | .slice elems spare => uptoBulkAll elems + uptoBulkAll spare + 1
  | .agg parts => uptoBulkAll parts + 1
  | .iface _ d => uptoBulk d + 1
  | .map entries => uptoBulkEntries entries + 1
  | .held _ => 1
def uptoBulkAll {H : Type} : List (DataW H) → Nat
  | [] => 0
  | d :: r => uptoBulk d + uptoBulkAll r
def uptoBulkEntries {H : Type} : List (Lit × DataW H) → Nat
  | [] => 0
  | x :: r => uptoBulkEntry x + uptoBulkEntries r
def uptoBulkEntry {H : Type} : Lit × DataW H → Nat
  | (.string bytes, d) => bytes.length + uptoBulk d + 1
  | (_, d) => uptoBulk d + 1
 end
def uptoSmall : (H : Type) → List (DataW H) → Bool := fun _ ds => decide (uptoBulkAll ds ≤ 1048576)
def OpenSpec.upto (s : _root_.Go.ChangeSpec) : _root_.Go.OpenSpec := { _root_.Go.OpenSpec.ofChange s with cond := some uptoSmall }

/-- 'laws.FnSplitWorth', WHERE WHAT IT READS IS OF BULK AT MOST 1048576: true; the input reads as it did. -/
def fnSplitWorthUptoRow : OpenClaim := { program := "ytdbpjlconbifpaa", sum := "d674993b9b3d9ec5c6a51e5807bcb809837aee30f3dae8efac8248dcf6b4753d", func := "loop.example/salesbybids/laws.FnSplitWorth", spec := "fnSplitWorth", unfollowed := true, recurses := true, apart := false, narrowed := true }
def FnSplitWorthUptoSaid : Prop := fnSplitWorthUptoRow.holds Try.pinned (OpenSpec.upto fnSplitWorthSpec)

/-- 'laws.FnBestSplit', WHERE WHAT IT READS IS OF BULK AT MOST 1048576: true; the input reads as it did. -/
def fnBestSplitUptoRow : OpenClaim := { program := "ytdbpjlconbifpaa", sum := "d674993b9b3d9ec5c6a51e5807bcb809837aee30f3dae8efac8248dcf6b4753d", func := "loop.example/salesbybids/laws.FnBestSplit", spec := "fnBestSplit", unfollowed := true, recurses := true, apart := false, narrowed := true }
def FnBestSplitUptoSaid : Prop := fnBestSplitUptoRow.holds Try.pinned (OpenSpec.upto fnBestSplitSpec)

/-- 'laws.FnPivotPays', WHERE WHAT IT READS IS OF BULK AT MOST 1048576: true; the input reads as it did. -/
def fnPivotPaysUptoRow : OpenClaim := { program := "ytdbpjlconbifpaa", sum := "d674993b9b3d9ec5c6a51e5807bcb809837aee30f3dae8efac8248dcf6b4753d", func := "loop.example/salesbybids/laws.FnPivotPays", spec := "fnPivotPays", unfollowed := true, recurses := true, apart := false, narrowed := true }
def FnPivotPaysUptoSaid : Prop := fnPivotPaysUptoRow.holds Try.pinned (OpenSpec.upto fnPivotPaysSpec)

/-- 'laws.FnAddsOf', WHERE WHAT IT READS IS OF BULK AT MOST 1048576: true; the input reads as it did. -/
def fnAddsOfUptoRow : OpenClaim := { program := "ytdbpjlconbifpaa", sum := "d674993b9b3d9ec5c6a51e5807bcb809837aee30f3dae8efac8248dcf6b4753d", func := "loop.example/salesbybids/laws.FnAddsOf", spec := "fnAddsOf", unfollowed := true, recurses := true, apart := false, narrowed := true }
def FnAddsOfUptoSaid : Prop := fnAddsOfUptoRow.holds Try.pinned (OpenSpec.upto fnAddsOfSpec)

/-- 'laws.FnGainTold', WHERE WHAT IT READS IS OF BULK AT MOST 1048576: true; the input reads as it did. -/
def fnGainToldUptoRow : OpenClaim := { program := "ytdbpjlconbifpaa", sum := "d674993b9b3d9ec5c6a51e5807bcb809837aee30f3dae8efac8248dcf6b4753d", func := "loop.example/salesbybids/laws.FnGainTold", spec := "fnGainTold", unfollowed := true, recurses := true, apart := false, narrowed := true }
def FnGainToldUptoSaid : Prop := fnGainToldUptoRow.holds Try.pinned (OpenSpec.upto fnGainToldSpec)

/-- 'laws.FnBroughtIn', WHERE WHAT IT READS IS OF BULK AT MOST 1048576: true; the input reads as it did. -/
def fnBroughtInUptoRow : OpenClaim := { program := "ytdbpjlconbifpaa", sum := "d674993b9b3d9ec5c6a51e5807bcb809837aee30f3dae8efac8248dcf6b4753d", func := "loop.example/salesbybids/laws.FnBroughtIn", spec := "fnBroughtIn", unfollowed := true, recurses := true, apart := false, narrowed := true }
def FnBroughtInUptoSaid : Prop := fnBroughtInUptoRow.holds Try.pinned (OpenSpec.upto fnBroughtInSpec)

end Rows
end Go.Proofs.Ytdbpjlconbifpaa
