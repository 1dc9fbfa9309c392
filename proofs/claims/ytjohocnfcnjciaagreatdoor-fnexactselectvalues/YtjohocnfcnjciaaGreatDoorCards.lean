/-
  DERIVED. GIVEN WITH THE SEED: THE CARDS: each row of YtjohocnfcnjciaaGreatDoorRows.lean that lists a variable, with what it lists TIED to the program's text (the seventh form; the later family's looks); each row that meets fmt, with fmt's text TOLD by the authors' own Lean function (tested against real Go, not proved from fmt's source: count such statements apart). THE CARD IS WHAT COUNTS. Prove the row's statement (the work); the ties are given (YtjohocnfcnjciaaGreatDoorTie.lean); close each card by the builder's one call (the guide's Derived/Test/ToyasCard.lean, 'card_holds'). Laid BY PROGRAM, IN A SANDBOX (cutbox-door.mjs). By AI agents, Wed Nov 11 2026. No macro, syntax, notation, axiom, sorry.
-/
import Derived.Test.YtjohocnfcnjciaaGreatDoorRows
import GoSem.ClaimSeven
namespace Go.Proofs.YtjohocnfcnjciaaGreatDoor
namespace Rows

/-- THE TIED CARD OF 'laws.FnExactMatchFilter'. -/
def fnExactMatchFilterCard : Claim7 := { stood := { row := fnExactMatchFilterRow, standIns := [], harness := (true, "8a8171c3b31250d6bc6d99833bcb4e2b11b7774649c870ac2f8720c417a935f3"), looks := true }, kinds := [], alts := [], laidByText := true, laidKinds := [.data, .data, .data, .data, .pinned], laidTests := true, laidLooks := .later }
def FnExactMatchFilterCardSaid : Prop := Claim7.holds Tryz.pinned (.plain (OpenSpec.ofChange fnExactMatchFilterSpec)) fnExactMatchFilterCard

/-- THE TIED CARD OF 'laws.FnExactPlainFilter'. -/
def fnExactPlainFilterCard : Claim7 := { stood := { row := fnExactPlainFilterRow, standIns := [], harness := (true, "8a8171c3b31250d6bc6d99833bcb4e2b11b7774649c870ac2f8720c417a935f3"), looks := true }, kinds := [], alts := [], laidByText := true, laidKinds := [.data, .data, .data, .data, .pinned], laidTests := true, laidLooks := .later }
def FnExactPlainFilterCardSaid : Prop := Claim7.holds Tryz.pinned (.plain (OpenSpec.ofChange fnExactPlainFilterSpec)) fnExactPlainFilterCard

/-- THE TIED CARD OF 'laws.FnExactSelectValues'. -/
def fnExactSelectValuesCard : Claim7 := { stood := { row := fnExactSelectValuesRow, standIns := [], harness := (true, "8a8171c3b31250d6bc6d99833bcb4e2b11b7774649c870ac2f8720c417a935f3"), looks := true }, kinds := [], alts := [], laidByText := true, laidKinds := [.data, .data, .data, .data, .pinned], laidTests := true, laidLooks := .later }
def FnExactSelectValuesCardSaid : Prop := Claim7.holds Tryz.pinned (.plain (OpenSpec.ofChange fnExactSelectValuesSpec)) fnExactSelectValuesCard

/-- THE SECOND FORM's CARD OF 'laws.FnExactMatchFilter'. -/
def fnExactMatchFilterUptoCard : Claim7 := { stood := { row := fnExactMatchFilterUptoRow, standIns := [], harness := (true, "8a8171c3b31250d6bc6d99833bcb4e2b11b7774649c870ac2f8720c417a935f3"), looks := true }, kinds := [], alts := [], laidByText := true, laidKinds := [.data, .data, .data, .data, .pinned], laidTests := true, laidLooks := .later }
def FnExactMatchFilterUptoCardSaid : Prop := Claim7.holds Tryz.pinned (.plain (OpenSpec.upto fnExactMatchFilterSpec)) fnExactMatchFilterUptoCard

/-- THE SECOND FORM's CARD OF 'laws.FnExactPlainFilter'. -/
def fnExactPlainFilterUptoCard : Claim7 := { stood := { row := fnExactPlainFilterUptoRow, standIns := [], harness := (true, "8a8171c3b31250d6bc6d99833bcb4e2b11b7774649c870ac2f8720c417a935f3"), looks := true }, kinds := [], alts := [], laidByText := true, laidKinds := [.data, .data, .data, .data, .pinned], laidTests := true, laidLooks := .later }
def FnExactPlainFilterUptoCardSaid : Prop := Claim7.holds Tryz.pinned (.plain (OpenSpec.upto fnExactPlainFilterSpec)) fnExactPlainFilterUptoCard

/-- THE SECOND FORM's CARD OF 'laws.FnExactSelectValues'. -/
def fnExactSelectValuesUptoCard : Claim7 := { stood := { row := fnExactSelectValuesUptoRow, standIns := [], harness := (true, "8a8171c3b31250d6bc6d99833bcb4e2b11b7774649c870ac2f8720c417a935f3"), looks := true }, kinds := [], alts := [], laidByText := true, laidKinds := [.data, .data, .data, .data, .pinned], laidTests := true, laidLooks := .later }
def FnExactSelectValuesUptoCardSaid : Prop := Claim7.holds Tryz.pinned (.plain (OpenSpec.upto fnExactSelectValuesSpec)) fnExactSelectValuesUptoCard
end Rows
end Go.Proofs.YtjohocnfcnjciaaGreatDoor
