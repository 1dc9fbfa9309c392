/-
  DERIVED. GIVEN WITH THE SEED: THE CARDS: each row of YtadlflgflnlhjaaGreatDoorRows.lean that lists a variable, with what it lists TIED to the program's text (the seventh form; the later family's looks); each row that meets fmt, with fmt's text TOLD by the authors' own Lean function (tested against real Go, not proved from fmt's source: count such statements apart). THE CARD IS WHAT COUNTS. Prove the row's statement (the work); the ties are given (YtadlflgflnlhjaaGreatDoorTie.lean); close each card by the builder's one call (the guide's Derived/Test/ToyasCard.lean, 'card_holds'). Laid BY PROGRAM, IN A SANDBOX (cutbox-door.mjs). By AI agents, Wed Nov 11 2026. No macro, syntax, notation, axiom, sorry.
-/
import Derived.Test.YtadlflgflnlhjaaGreatDoorRows
import GoSem.ClaimSeven
namespace Go.Proofs.YtadlflgflnlhjaaGreatDoor
namespace Rows

/-- THE TIED CARD OF 'laws.FnExactSetAt'. -/
def fnExactSetAtCard : Claim7 := { stood := { row := fnExactSetAtRow, standIns := [], harness := (true, "375dfa601d97e59d0711840fa4bf01044463f4d15c803b6a21bd03924cb62af9"), looks := false }, kinds := [], alts := [], laidByText := true, laidKinds := [.data, .data, .data, .data, .pinned], laidTests := true, laidLooks := .later }
def FnExactSetAtCardSaid : Prop := Claim7.holds Tryz.pinned (.plain (OpenSpec.ofChange fnExactSetAtSpec)) fnExactSetAtCard

/-- THE TIED CARD OF 'laws.FnExactGoodFilter'. -/
def fnExactGoodFilterCard : Claim7 := { stood := { row := fnExactGoodFilterRow, standIns := [], harness := (true, "375dfa601d97e59d0711840fa4bf01044463f4d15c803b6a21bd03924cb62af9"), looks := false }, kinds := [], alts := [], laidByText := true, laidKinds := [.data, .data, .data, .data, .pinned], laidTests := true, laidLooks := .later }
def FnExactGoodFilterCardSaid : Prop := Claim7.holds Tryz.pinned (.plain (OpenSpec.ofChange fnExactGoodFilterSpec)) fnExactGoodFilterCard

/-- THE TIED CARD OF 'laws.FnExactNegateFilter'. -/
def fnExactNegateFilterCard : Claim7 := { stood := { row := fnExactNegateFilterRow, standIns := [], harness := (true, "375dfa601d97e59d0711840fa4bf01044463f4d15c803b6a21bd03924cb62af9"), looks := false }, kinds := [], alts := [], laidByText := true, laidKinds := [.data, .data, .data, .data, .pinned], laidTests := true, laidLooks := .later }
def FnExactNegateFilterCardSaid : Prop := Claim7.holds Tryz.pinned (.plain (OpenSpec.ofChange fnExactNegateFilterSpec)) fnExactNegateFilterCard

/-- THE TIED CARD OF 'laws.FnExactAndFilters'. -/
def fnExactAndFiltersCard : Claim7 := { stood := { row := fnExactAndFiltersRow, standIns := [], harness := (true, "375dfa601d97e59d0711840fa4bf01044463f4d15c803b6a21bd03924cb62af9"), looks := false }, kinds := [], alts := [], laidByText := true, laidKinds := [.data, .data, .data, .data, .pinned], laidTests := true, laidLooks := .later }
def FnExactAndFiltersCardSaid : Prop := Claim7.holds Tryz.pinned (.plain (OpenSpec.ofChange fnExactAndFiltersSpec)) fnExactAndFiltersCard

/-- THE TIED CARD OF 'laws.FnExactTermsIn'. -/
def fnExactTermsInCard : Claim7 := { stood := { row := fnExactTermsInRow, standIns := [], harness := (true, "375dfa601d97e59d0711840fa4bf01044463f4d15c803b6a21bd03924cb62af9"), looks := false }, kinds := [], alts := [], laidByText := true, laidKinds := [.data, .data, .data, .data, .pinned], laidTests := true, laidLooks := .later }
def FnExactTermsInCardSaid : Prop := Claim7.holds Tryz.pinned (.plain (OpenSpec.ofChange fnExactTermsInSpec)) fnExactTermsInCard

/-- THE SECOND FORM's CARD OF 'laws.FnExactSetAt'. -/
def fnExactSetAtUptoCard : Claim7 := { stood := { row := fnExactSetAtUptoRow, standIns := [], harness := (true, "375dfa601d97e59d0711840fa4bf01044463f4d15c803b6a21bd03924cb62af9"), looks := false }, kinds := [], alts := [], laidByText := true, laidKinds := [.data, .data, .data, .data, .pinned], laidTests := true, laidLooks := .later }
def FnExactSetAtUptoCardSaid : Prop := Claim7.holds Tryz.pinned (.plain (OpenSpec.upto fnExactSetAtSpec)) fnExactSetAtUptoCard

/-- THE SECOND FORM's CARD OF 'laws.FnExactGoodFilter'. -/
def fnExactGoodFilterUptoCard : Claim7 := { stood := { row := fnExactGoodFilterUptoRow, standIns := [], harness := (true, "375dfa601d97e59d0711840fa4bf01044463f4d15c803b6a21bd03924cb62af9"), looks := false }, kinds := [], alts := [], laidByText := true, laidKinds := [.data, .data, .data, .data, .pinned], laidTests := true, laidLooks := .later }
def FnExactGoodFilterUptoCardSaid : Prop := Claim7.holds Tryz.pinned (.plain (OpenSpec.upto fnExactGoodFilterSpec)) fnExactGoodFilterUptoCard

/-- THE SECOND FORM's CARD OF 'laws.FnExactNegateFilter'. -/
def fnExactNegateFilterUptoCard : Claim7 := { stood := { row := fnExactNegateFilterUptoRow, standIns := [], harness := (true, "375dfa601d97e59d0711840fa4bf01044463f4d15c803b6a21bd03924cb62af9"), looks := false }, kinds := [], alts := [], laidByText := true, laidKinds := [.data, .data, .data, .data, .pinned], laidTests := true, laidLooks := .later }
def FnExactNegateFilterUptoCardSaid : Prop := Claim7.holds Tryz.pinned (.plain (OpenSpec.upto fnExactNegateFilterSpec)) fnExactNegateFilterUptoCard

/-- THE SECOND FORM's CARD OF 'laws.FnExactAndFilters'. -/
def fnExactAndFiltersUptoCard : Claim7 := { stood := { row := fnExactAndFiltersUptoRow, standIns := [], harness := (true, "375dfa601d97e59d0711840fa4bf01044463f4d15c803b6a21bd03924cb62af9"), looks := false }, kinds := [], alts := [], laidByText := true, laidKinds := [.data, .data, .data, .data, .pinned], laidTests := true, laidLooks := .later }
def FnExactAndFiltersUptoCardSaid : Prop := Claim7.holds Tryz.pinned (.plain (OpenSpec.upto fnExactAndFiltersSpec)) fnExactAndFiltersUptoCard

/-- THE SECOND FORM's CARD OF 'laws.FnExactTermsIn'. -/
def fnExactTermsInUptoCard : Claim7 := { stood := { row := fnExactTermsInUptoRow, standIns := [], harness := (true, "375dfa601d97e59d0711840fa4bf01044463f4d15c803b6a21bd03924cb62af9"), looks := false }, kinds := [], alts := [], laidByText := true, laidKinds := [.data, .data, .data, .data, .pinned], laidTests := true, laidLooks := .later }
def FnExactTermsInUptoCardSaid : Prop := Claim7.holds Tryz.pinned (.plain (OpenSpec.upto fnExactTermsInSpec)) fnExactTermsInUptoCard
end Rows
end Go.Proofs.YtadlflgflnlhjaaGreatDoor
