/-
  DERIVED. GIVEN WITH THE SEED: THE CARDS: each row of YtjohocnfcnjciaaDoorRows.lean that lists a variable, with what it lists TIED to the program's text (the seventh form; the later family's looks); each row that meets fmt, with fmt's text TOLD by the authors' own Lean function (tested against real Go, not proved from fmt's source: count such statements apart). THE CARD IS WHAT COUNTS. Prove the row's statement (the work); the ties are given (YtjohocnfcnjciaaDoorTie.lean); close each card by the builder's one call (the guide's Derived/Test/ToyasCard.lean, 'card_holds'). Laid BY PROGRAM, IN A SANDBOX (cutbox-door.mjs). By AI agents, Wed Nov 11 2026. No macro, syntax, notation, axiom, sorry.
-/
import Derived.Test.YtjohocnfcnjciaaDoorRows
import GoSem.ClaimSeven
namespace Go.Proofs.YtjohocnfcnjciaaDoor
namespace Rows

/-- THE TIED CARD OF 'laws.FnExactGoodAct'. -/
def fnExactGoodActCard : Claim7 := { stood := { row := fnExactGoodActRow, standIns := [], harness := (true, "80fb2b53bedfb075c480e95f14e974a24c7d9d40e778149962b1e3ec25e601c6"), looks := false }, kinds := [], alts := [], laidByText := true, laidKinds := [.data, .data, .data, .data, .pinned], laidTests := true, laidLooks := .later }
def FnExactGoodActCardSaid : Prop := Claim7.holds Tryd.pinned (.plain (OpenSpec.ofChange fnExactGoodActSpec)) fnExactGoodActCard

/-- THE SECOND FORM's CARD OF 'laws.FnExactGoodAct'. -/
def fnExactGoodActUptoCard : Claim7 := { stood := { row := fnExactGoodActUptoRow, standIns := [], harness := (true, "80fb2b53bedfb075c480e95f14e974a24c7d9d40e778149962b1e3ec25e601c6"), looks := false }, kinds := [], alts := [], laidByText := true, laidKinds := [.data, .data, .data, .data, .pinned], laidTests := true, laidLooks := .later }
def FnExactGoodActUptoCardSaid : Prop := Claim7.holds Tryd.pinned (.plain (OpenSpec.upto fnExactGoodActSpec)) fnExactGoodActUptoCard
end Rows
end Go.Proofs.YtjohocnfcnjciaaDoor
