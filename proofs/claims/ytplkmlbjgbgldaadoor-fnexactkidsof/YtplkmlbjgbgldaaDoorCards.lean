/-
  DERIVED. GIVEN WITH THE SEED: THE CARDS: each row of YtplkmlbjgbgldaaDoorRows.lean that lists a variable, with what it lists TIED to the program's text (the seventh form; the later family's looks); each row that meets fmt, with fmt's text TOLD by the authors' own Lean function (tested against real Go, not proved from fmt's source: count such statements apart). THE CARD IS WHAT COUNTS. Prove the row's statement (the work); the ties are given (YtplkmlbjgbgldaaDoorTie.lean); close each card by the builder's one call (the guide's Derived/Test/ToyasCard.lean, 'card_holds'). Laid BY PROGRAM, IN A SANDBOX (cutbox-door.mjs). By AI agents, Wed Nov 11 2026. No macro, syntax, notation, axiom, sorry.
-/
import Derived.Test.YtplkmlbjgbgldaaDoorRows
import GoSem.ClaimSeven
namespace Go.Proofs.YtplkmlbjgbgldaaDoor
namespace Rows

/-- THE TIED CARD OF 'laws.FnExactGoodValue'. -/
def fnExactGoodValueCard : Claim7 := { stood := { row := fnExactGoodValueRow, standIns := [], harness := (true, "126bfeb8826df40041c309b6f0210b7b1f571c6ec41d3a06fba3410ccaa5ef72"), looks := false }, kinds := [], alts := [], laidByText := true, laidKinds := [.data, .data, .data], laidTests := true, laidLooks := .later }
def FnExactGoodValueCardSaid : Prop := Claim7.holds Tryd.pinned (.plain (OpenSpec.ofChange fnExactGoodValueSpec)) fnExactGoodValueCard

/-- THE TIED CARD OF 'laws.FnExactValueText'. -/
def fnExactValueTextCard : Claim7 := { stood := { row := fnExactValueTextRow, standIns := [], harness := (true, "126bfeb8826df40041c309b6f0210b7b1f571c6ec41d3a06fba3410ccaa5ef72"), looks := false }, kinds := [], alts := [], laidByText := true, laidKinds := [.data, .data, .data], laidTests := true, laidLooks := .later }
def FnExactValueTextCardSaid : Prop := Claim7.holds Tryd.pinned (.plain (OpenSpec.ofChange fnExactValueTextSpec)) fnExactValueTextCard

/-- THE TIED CARD OF 'laws.FnExactTidyText'. -/
def fnExactTidyTextCard : Claim7 := { stood := { row := fnExactTidyTextRow, standIns := [], harness := (true, "126bfeb8826df40041c309b6f0210b7b1f571c6ec41d3a06fba3410ccaa5ef72"), looks := false }, kinds := [], alts := [], laidByText := true, laidKinds := [.data, .data, .data], laidTests := true, laidLooks := .later }
def FnExactTidyTextCardSaid : Prop := Claim7.holds Tryd.pinned (.plain (OpenSpec.ofChange fnExactTidyTextSpec)) fnExactTidyTextCard

/-- THE TIED CARD OF 'laws.FnExactKidsOf'. -/
def fnExactKidsOfCard : Claim7 := { stood := { row := fnExactKidsOfRow, standIns := [], harness := (true, "126bfeb8826df40041c309b6f0210b7b1f571c6ec41d3a06fba3410ccaa5ef72"), looks := false }, kinds := [], alts := [], laidByText := true, laidKinds := [.data, .data, .data], laidTests := true, laidLooks := .later }
def FnExactKidsOfCardSaid : Prop := Claim7.holds Tryd.pinned (.plain (OpenSpec.ofChange fnExactKidsOfSpec)) fnExactKidsOfCard

/-- THE TIED CARD OF 'laws.FnExactSubOf'. -/
def fnExactSubOfCard : Claim7 := { stood := { row := fnExactSubOfRow, standIns := [], harness := (true, "126bfeb8826df40041c309b6f0210b7b1f571c6ec41d3a06fba3410ccaa5ef72"), looks := false }, kinds := [], alts := [], laidByText := true, laidKinds := [.data, .data, .data], laidTests := true, laidLooks := .later }
def FnExactSubOfCardSaid : Prop := Claim7.holds Tryd.pinned (.plain (OpenSpec.ofChange fnExactSubOfSpec)) fnExactSubOfCard

/-- THE TIED CARD OF 'laws.FnExactDeepOf'. -/
def fnExactDeepOfCard : Claim7 := { stood := { row := fnExactDeepOfRow, standIns := [], harness := (true, "126bfeb8826df40041c309b6f0210b7b1f571c6ec41d3a06fba3410ccaa5ef72"), looks := false }, kinds := [], alts := [], laidByText := true, laidKinds := [.data, .data, .data], laidTests := true, laidLooks := .later }
def FnExactDeepOfCardSaid : Prop := Claim7.holds Tryd.pinned (.plain (OpenSpec.ofChange fnExactDeepOfSpec)) fnExactDeepOfCard

/-- THE SECOND FORM's CARD OF 'laws.FnExactGoodValue'. -/
def fnExactGoodValueUptoCard : Claim7 := { stood := { row := fnExactGoodValueUptoRow, standIns := [], harness := (true, "126bfeb8826df40041c309b6f0210b7b1f571c6ec41d3a06fba3410ccaa5ef72"), looks := false }, kinds := [], alts := [], laidByText := true, laidKinds := [.data, .data, .data], laidTests := true, laidLooks := .later }
def FnExactGoodValueUptoCardSaid : Prop := Claim7.holds Tryd.pinned (.plain (OpenSpec.upto fnExactGoodValueSpec)) fnExactGoodValueUptoCard

/-- THE SECOND FORM's CARD OF 'laws.FnExactValueText'. -/
def fnExactValueTextUptoCard : Claim7 := { stood := { row := fnExactValueTextUptoRow, standIns := [], harness := (true, "126bfeb8826df40041c309b6f0210b7b1f571c6ec41d3a06fba3410ccaa5ef72"), looks := false }, kinds := [], alts := [], laidByText := true, laidKinds := [.data, .data, .data], laidTests := true, laidLooks := .later }
def FnExactValueTextUptoCardSaid : Prop := Claim7.holds Tryd.pinned (.plain (OpenSpec.upto fnExactValueTextSpec)) fnExactValueTextUptoCard

/-- THE SECOND FORM's CARD OF 'laws.FnExactTidyText'. -/
def fnExactTidyTextUptoCard : Claim7 := { stood := { row := fnExactTidyTextUptoRow, standIns := [], harness := (true, "126bfeb8826df40041c309b6f0210b7b1f571c6ec41d3a06fba3410ccaa5ef72"), looks := false }, kinds := [], alts := [], laidByText := true, laidKinds := [.data, .data, .data], laidTests := true, laidLooks := .later }
def FnExactTidyTextUptoCardSaid : Prop := Claim7.holds Tryd.pinned (.plain (OpenSpec.upto fnExactTidyTextSpec)) fnExactTidyTextUptoCard

/-- THE SECOND FORM's CARD OF 'laws.FnExactKidsOf'. -/
def fnExactKidsOfUptoCard : Claim7 := { stood := { row := fnExactKidsOfUptoRow, standIns := [], harness := (true, "126bfeb8826df40041c309b6f0210b7b1f571c6ec41d3a06fba3410ccaa5ef72"), looks := false }, kinds := [], alts := [], laidByText := true, laidKinds := [.data, .data, .data], laidTests := true, laidLooks := .later }
def FnExactKidsOfUptoCardSaid : Prop := Claim7.holds Tryd.pinned (.plain (OpenSpec.upto fnExactKidsOfSpec)) fnExactKidsOfUptoCard

/-- THE SECOND FORM's CARD OF 'laws.FnExactSubOf'. -/
def fnExactSubOfUptoCard : Claim7 := { stood := { row := fnExactSubOfUptoRow, standIns := [], harness := (true, "126bfeb8826df40041c309b6f0210b7b1f571c6ec41d3a06fba3410ccaa5ef72"), looks := false }, kinds := [], alts := [], laidByText := true, laidKinds := [.data, .data, .data], laidTests := true, laidLooks := .later }
def FnExactSubOfUptoCardSaid : Prop := Claim7.holds Tryd.pinned (.plain (OpenSpec.upto fnExactSubOfSpec)) fnExactSubOfUptoCard

/-- THE SECOND FORM's CARD OF 'laws.FnExactDeepOf'. -/
def fnExactDeepOfUptoCard : Claim7 := { stood := { row := fnExactDeepOfUptoRow, standIns := [], harness := (true, "126bfeb8826df40041c309b6f0210b7b1f571c6ec41d3a06fba3410ccaa5ef72"), looks := false }, kinds := [], alts := [], laidByText := true, laidKinds := [.data, .data, .data], laidTests := true, laidLooks := .later }
def FnExactDeepOfUptoCardSaid : Prop := Claim7.holds Tryd.pinned (.plain (OpenSpec.upto fnExactDeepOfSpec)) fnExactDeepOfUptoCard
end Rows
end Go.Proofs.YtplkmlbjgbgldaaDoor
