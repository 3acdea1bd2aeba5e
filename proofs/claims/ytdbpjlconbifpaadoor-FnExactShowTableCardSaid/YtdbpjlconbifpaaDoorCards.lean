/-
  DERIVED. GIVEN WITH THE SEED: THE CARDS: each row of YtdbpjlconbifpaaDoorRows.lean that lists a variable, with what it lists TIED to the program's text (the seventh form; the later family's looks); each row that meets fmt, with fmt's text TOLD by the authors' own Lean function (tested against real Go, not proved from fmt's source: count such statements apart). THE CARD IS WHAT COUNTS. Prove the row's statement (the work); the ties are given (YtdbpjlconbifpaaDoorTie.lean); close each card by the builder's one call (the guide's Derived/Test/ToyasCard.lean, 'card_holds'). Laid BY PROGRAM, IN A SANDBOX (cutbox-door.mjs). By AI agents, Wed Nov 11 2026. No macro, syntax, notation, axiom, sorry.
-/
import Derived.Test.YtdbpjlconbifpaaDoorRows
import GoSem.ClaimSeven
namespace Go.Proofs.YtdbpjlconbifpaaDoor
namespace Rows

/-- THE TIED CARD OF 'laws.FnExactShowTable'. -/
def fnExactShowTableCard : Claim7 := { stood := { row := fnExactShowTableRow, standIns := [], harness := (true, "adb1399d63f60ef1de46d9b2c332fc42354cc355e9cfede49f64e4895f80ecda"), looks := false }, kinds := [], alts := [], laidByText := true, laidKinds := [.data, .data, .data], laidTests := true, laidLooks := .later }
def FnExactShowTableCardSaid : Prop := Claim7.holds Tryd.pinned (.plain (OpenSpec.ofChange fnExactShowTableSpec)) fnExactShowTableCard

/-- THE SECOND FORM's CARD OF 'laws.FnExactShowTable'. -/
def fnExactShowTableUptoCard : Claim7 := { stood := { row := fnExactShowTableUptoRow, standIns := [], harness := (true, "adb1399d63f60ef1de46d9b2c332fc42354cc355e9cfede49f64e4895f80ecda"), looks := false }, kinds := [], alts := [], laidByText := true, laidKinds := [.data, .data, .data], laidTests := true, laidLooks := .later }
def FnExactShowTableUptoCardSaid : Prop := Claim7.holds Tryd.pinned (.plain (OpenSpec.upto fnExactShowTableSpec)) fnExactShowTableUptoCard
end Rows
end Go.Proofs.YtdbpjlconbifpaaDoor
