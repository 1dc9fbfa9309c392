/-
  DERIVED. GIVEN WITH THE SEED: THE CARDS: each row of YteeomicblaljnaaDoorRows.lean that lists a variable, with what it lists TIED to the program's text (the seventh form; the later family's looks); each row that meets fmt, with fmt's text TOLD by the authors' own Lean function (tested against real Go, not proved from fmt's source: count such statements apart). THE CARD IS WHAT COUNTS. Prove the row's statement (the work); the ties are given (YteeomicblaljnaaDoorTie.lean); close each card by the builder's one call (the guide's Derived/Test/ToyasCard.lean, 'card_holds'). Laid BY PROGRAM, IN A SANDBOX (cutbox-door.mjs). By AI agents, Wed Nov 11 2026. No macro, syntax, notation, axiom, sorry.
-/
import Derived.Test.YteeomicblaljnaaDoorRows
import GoSem.ClaimSeven
namespace Go.Proofs.YteeomicblaljnaaDoor
namespace Rows

/-- THE TIED CARD OF 'laws.FnExactIsClean'. -/
def fnExactIsCleanCard : Claim7 := { stood := { row := fnExactIsCleanRow, standIns := [], harness := (true, "604d770c4848f5a75e30da9d40db043b2694216ab5c1b10a374fab53ae26c1d2"), looks := true }, kinds := [], alts := [], laidByText := true, laidKinds := [.data, .data, .data, .sentinel], laidTests := true, laidLooks := .later }
def FnExactIsCleanCardSaid : Prop := Claim7.holds Tryd.pinned (.plain (OpenSpec.ofChange fnExactIsCleanSpec)) fnExactIsCleanCard

/-- THE TIED CARD OF 'laws.FnExactCleanOf'. -/
def fnExactCleanOfCard : Claim7 := { stood := { row := fnExactCleanOfRow, standIns := [], harness := (true, "604d770c4848f5a75e30da9d40db043b2694216ab5c1b10a374fab53ae26c1d2"), looks := true }, kinds := [], alts := [], laidByText := true, laidKinds := [.data, .data, .data, .handle, .sentinel], laidTests := true, laidLooks := .later }
def FnExactCleanOfCardSaid : Prop := Claim7.holds Tryd.pinned (.plain (OpenSpec.ofChange fnExactCleanOfSpec)) fnExactCleanOfCard

/-- THE SECOND FORM's CARD OF 'laws.FnExactIsClean'. -/
def fnExactIsCleanUptoCard : Claim7 := { stood := { row := fnExactIsCleanUptoRow, standIns := [], harness := (true, "604d770c4848f5a75e30da9d40db043b2694216ab5c1b10a374fab53ae26c1d2"), looks := true }, kinds := [], alts := [], laidByText := true, laidKinds := [.data, .data, .data, .sentinel], laidTests := true, laidLooks := .later }
def FnExactIsCleanUptoCardSaid : Prop := Claim7.holds Tryd.pinned (.plain (OpenSpec.upto fnExactIsCleanSpec)) fnExactIsCleanUptoCard

/-- THE SECOND FORM's CARD OF 'laws.FnExactCleanOf'. -/
def fnExactCleanOfUptoCard : Claim7 := { stood := { row := fnExactCleanOfUptoRow, standIns := [], harness := (true, "604d770c4848f5a75e30da9d40db043b2694216ab5c1b10a374fab53ae26c1d2"), looks := true }, kinds := [], alts := [], laidByText := true, laidKinds := [.data, .data, .data, .handle, .sentinel], laidTests := true, laidLooks := .later }
def FnExactCleanOfUptoCardSaid : Prop := Claim7.holds Tryd.pinned (.plain (OpenSpec.upto fnExactCleanOfSpec)) fnExactCleanOfUptoCard
end Rows
end Go.Proofs.YteeomicblaljnaaDoor
