/-
  DERIVED. GIVEN WITH THE SEED: THE CARDS: each row of YtcceaadidnmdaaaGreatDoorRows.lean that lists a variable, with what it lists TIED to the program's text (the seventh form; the later family's looks); each row that meets fmt, with fmt's text TOLD by the authors' own Lean function (tested against real Go, not proved from fmt's source: count such statements apart). THE CARD IS WHAT COUNTS. Prove the row's statement (the work); the ties are given (YtcceaadidnmdaaaGreatDoorTie.lean); close each card by the builder's one call (the guide's Derived/Test/ToyasCard.lean, 'card_holds'). Laid BY PROGRAM, IN A SANDBOX (cutbox-door.mjs). By AI agents, Wed Nov 11 2026. No macro, syntax, notation, axiom, sorry.
-/
import Derived.Test.YtcceaadidnmdaaaGreatDoorRows
import GoSem.ClaimSeven
namespace Go.Proofs.YtcceaadidnmdaaaGreatDoor
namespace Rows

/-- THE TIED CARD OF 'laws.FnExactSetAt'. -/
def fnExactSetAtCard : Claim7 := { stood := { row := fnExactSetAtRow, standIns := [], harness := (true, "87de9aca535e59da9013ea7f9d78838458c86ebcb9aaa916a7e899f35b25945d"), looks := false }, kinds := [], alts := [], laidByText := true, laidKinds := [.data, .data, .data, .data, .pinned], laidTests := true, laidLooks := .later }
def FnExactSetAtCardSaid : Prop := Claim7.holds Tryz.pinned (.plain (OpenSpec.ofChange fnExactSetAtSpec)) fnExactSetAtCard

/-- THE TIED CARD OF 'laws.FnExactRemoveAt'. -/
def fnExactRemoveAtCard : Claim7 := { stood := { row := fnExactRemoveAtRow, standIns := [], harness := (true, "87de9aca535e59da9013ea7f9d78838458c86ebcb9aaa916a7e899f35b25945d"), looks := false }, kinds := [], alts := [], laidByText := true, laidKinds := [.data, .data, .data, .data, .pinned], laidTests := true, laidLooks := .later }
def FnExactRemoveAtCardSaid : Prop := Claim7.holds Tryz.pinned (.plain (OpenSpec.ofChange fnExactRemoveAtSpec)) fnExactRemoveAtCard

/-- THE SECOND FORM's CARD OF 'laws.FnExactSetAt'. -/
def fnExactSetAtUptoCard : Claim7 := { stood := { row := fnExactSetAtUptoRow, standIns := [], harness := (true, "87de9aca535e59da9013ea7f9d78838458c86ebcb9aaa916a7e899f35b25945d"), looks := false }, kinds := [], alts := [], laidByText := true, laidKinds := [.data, .data, .data, .data, .pinned], laidTests := true, laidLooks := .later }
def FnExactSetAtUptoCardSaid : Prop := Claim7.holds Tryz.pinned (.plain (OpenSpec.upto fnExactSetAtSpec)) fnExactSetAtUptoCard

/-- THE SECOND FORM's CARD OF 'laws.FnExactRemoveAt'. -/
def fnExactRemoveAtUptoCard : Claim7 := { stood := { row := fnExactRemoveAtUptoRow, standIns := [], harness := (true, "87de9aca535e59da9013ea7f9d78838458c86ebcb9aaa916a7e899f35b25945d"), looks := false }, kinds := [], alts := [], laidByText := true, laidKinds := [.data, .data, .data, .data, .pinned], laidTests := true, laidLooks := .later }
def FnExactRemoveAtUptoCardSaid : Prop := Claim7.holds Tryz.pinned (.plain (OpenSpec.upto fnExactRemoveAtSpec)) fnExactRemoveAtUptoCard
end Rows
end Go.Proofs.YtcceaadidnmdaaaGreatDoor
