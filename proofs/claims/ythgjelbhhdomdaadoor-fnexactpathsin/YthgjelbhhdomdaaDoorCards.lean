/-
  DERIVED. GIVEN WITH THE SEED: THE CARDS: each row of YthgjelbhhdomdaaDoorRows.lean that lists a variable, with what it lists TIED to the program's text (the seventh form; the later family's looks); each row that meets fmt, with fmt's text TOLD by the authors' own Lean function (tested against real Go, not proved from fmt's source: count such statements apart). THE CARD IS WHAT COUNTS. Prove the row's statement (the work); the ties are given (YthgjelbhhdomdaaDoorTie.lean); close each card by the builder's one call (the guide's Derived/Test/ToyasCard.lean, 'card_holds'). Laid BY PROGRAM, IN A SANDBOX (cutbox-door.mjs). By AI agents, Wed Nov 11 2026. No macro, syntax, notation, axiom, sorry.
-/
import Derived.Test.YthgjelbhhdomdaaDoorRows
import GoSem.ClaimSeven
namespace Go.Proofs.YthgjelbhhdomdaaDoor
namespace Rows

/-- THE TIED CARD OF 'laws.FnExactTidyText'. -/
def fnExactTidyTextCard : Claim7 := { stood := { row := fnExactTidyTextRow, standIns := [], harness := (true, "5bf412e82e052a0394ec1381f26cd32e4f4d6850547fb28ce8624d8b0495de9e"), looks := false }, kinds := [], alts := [], laidByText := true, laidKinds := [.data, .data, .data], laidTests := true, laidLooks := .later }
def FnExactTidyTextCardSaid : Prop := Claim7.holds Tryd.pinned (.plain (OpenSpec.ofChange fnExactTidyTextSpec)) fnExactTidyTextCard

/-- THE TIED CARD OF 'laws.FnExactReadKey'. -/
def fnExactReadKeyCard : Claim7 := { stood := { row := fnExactReadKeyRow, standIns := [], harness := (true, "5bf412e82e052a0394ec1381f26cd32e4f4d6850547fb28ce8624d8b0495de9e"), looks := false }, kinds := [], alts := [], laidByText := true, laidKinds := [.data, .data, .data, .data], laidTests := true, laidLooks := .later }
def FnExactReadKeyCardSaid : Prop := Claim7.holds Tryd.pinned (.plain (OpenSpec.ofChange fnExactReadKeySpec)) fnExactReadKeyCard

/-- THE TIED CARD OF 'laws.FnExactPairKey'. -/
def fnExactPairKeyCard : Claim7 := { stood := { row := fnExactPairKeyRow, standIns := [], harness := (true, "5bf412e82e052a0394ec1381f26cd32e4f4d6850547fb28ce8624d8b0495de9e"), looks := false }, kinds := [], alts := [], laidByText := true, laidKinds := [.data, .data, .data, .data], laidTests := true, laidLooks := .later }
def FnExactPairKeyCardSaid : Prop := Claim7.holds Tryd.pinned (.plain (OpenSpec.ofChange fnExactPairKeySpec)) fnExactPairKeyCard

/-- THE TIED CARD OF 'laws.FnExactPathOf'. -/
def fnExactPathOfCard : Claim7 := { stood := { row := fnExactPathOfRow, standIns := [], harness := (true, "5bf412e82e052a0394ec1381f26cd32e4f4d6850547fb28ce8624d8b0495de9e"), looks := false }, kinds := [], alts := [], laidByText := true, laidKinds := [.data, .pinned], laidTests := true, laidLooks := .later }
def FnExactPathOfCardSaid : Prop := Claim7.holds Tryd.pinned (.plain (OpenSpec.ofChange fnExactPathOfSpec)) fnExactPathOfCard

/-- THE TIED CARD OF 'laws.FnExactPathText'. -/
def fnExactPathTextCard : Claim7 := { stood := { row := fnExactPathTextRow, standIns := [], harness := (true, "5bf412e82e052a0394ec1381f26cd32e4f4d6850547fb28ce8624d8b0495de9e"), looks := false }, kinds := [], alts := [], laidByText := true, laidKinds := [.data, .pinned], laidTests := true, laidLooks := .later }
def FnExactPathTextCardSaid : Prop := Claim7.holds Tryd.pinned (.plain (OpenSpec.ofChange fnExactPathTextSpec)) fnExactPathTextCard

/-- THE TIED CARD OF 'laws.FnExactPathsIn'. -/
def fnExactPathsInCard : Claim7 := { stood := { row := fnExactPathsInRow, standIns := [], harness := (true, "5bf412e82e052a0394ec1381f26cd32e4f4d6850547fb28ce8624d8b0495de9e"), looks := false }, kinds := [], alts := [], laidByText := true, laidKinds := [.data, .data, .data, .data, .pinned], laidTests := true, laidLooks := .later }
def FnExactPathsInCardSaid : Prop := Claim7.holds Tryd.pinned (.plain (OpenSpec.ofChange fnExactPathsInSpec)) fnExactPathsInCard

/-- THE TIED CARD OF 'laws.FnExactHasAt'. -/
def fnExactHasAtCard : Claim7 := { stood := { row := fnExactHasAtRow, standIns := [], harness := (true, "5bf412e82e052a0394ec1381f26cd32e4f4d6850547fb28ce8624d8b0495de9e"), looks := false }, kinds := [], alts := [], laidByText := true, laidKinds := [.data, .data, .data, .data, .pinned], laidTests := true, laidLooks := .later }
def FnExactHasAtCardSaid : Prop := Claim7.holds Tryd.pinned (.plain (OpenSpec.ofChange fnExactHasAtSpec)) fnExactHasAtCard

/-- THE SECOND FORM's CARD OF 'laws.FnExactTidyText'. -/
def fnExactTidyTextUptoCard : Claim7 := { stood := { row := fnExactTidyTextUptoRow, standIns := [], harness := (true, "5bf412e82e052a0394ec1381f26cd32e4f4d6850547fb28ce8624d8b0495de9e"), looks := false }, kinds := [], alts := [], laidByText := true, laidKinds := [.data, .data, .data], laidTests := true, laidLooks := .later }
def FnExactTidyTextUptoCardSaid : Prop := Claim7.holds Tryd.pinned (.plain (OpenSpec.upto fnExactTidyTextSpec)) fnExactTidyTextUptoCard

/-- THE SECOND FORM's CARD OF 'laws.FnExactReadKey'. -/
def fnExactReadKeyUptoCard : Claim7 := { stood := { row := fnExactReadKeyUptoRow, standIns := [], harness := (true, "5bf412e82e052a0394ec1381f26cd32e4f4d6850547fb28ce8624d8b0495de9e"), looks := false }, kinds := [], alts := [], laidByText := true, laidKinds := [.data, .data, .data, .data], laidTests := true, laidLooks := .later }
def FnExactReadKeyUptoCardSaid : Prop := Claim7.holds Tryd.pinned (.plain (OpenSpec.upto fnExactReadKeySpec)) fnExactReadKeyUptoCard

/-- THE SECOND FORM's CARD OF 'laws.FnExactPairKey'. -/
def fnExactPairKeyUptoCard : Claim7 := { stood := { row := fnExactPairKeyUptoRow, standIns := [], harness := (true, "5bf412e82e052a0394ec1381f26cd32e4f4d6850547fb28ce8624d8b0495de9e"), looks := false }, kinds := [], alts := [], laidByText := true, laidKinds := [.data, .data, .data, .data], laidTests := true, laidLooks := .later }
def FnExactPairKeyUptoCardSaid : Prop := Claim7.holds Tryd.pinned (.plain (OpenSpec.upto fnExactPairKeySpec)) fnExactPairKeyUptoCard

/-- THE SECOND FORM's CARD OF 'laws.FnExactPathOf'. -/
def fnExactPathOfUptoCard : Claim7 := { stood := { row := fnExactPathOfUptoRow, standIns := [], harness := (true, "5bf412e82e052a0394ec1381f26cd32e4f4d6850547fb28ce8624d8b0495de9e"), looks := false }, kinds := [], alts := [], laidByText := true, laidKinds := [.data, .pinned], laidTests := true, laidLooks := .later }
def FnExactPathOfUptoCardSaid : Prop := Claim7.holds Tryd.pinned (.plain (OpenSpec.upto fnExactPathOfSpec)) fnExactPathOfUptoCard

/-- THE SECOND FORM's CARD OF 'laws.FnExactPathText'. -/
def fnExactPathTextUptoCard : Claim7 := { stood := { row := fnExactPathTextUptoRow, standIns := [], harness := (true, "5bf412e82e052a0394ec1381f26cd32e4f4d6850547fb28ce8624d8b0495de9e"), looks := false }, kinds := [], alts := [], laidByText := true, laidKinds := [.data, .pinned], laidTests := true, laidLooks := .later }
def FnExactPathTextUptoCardSaid : Prop := Claim7.holds Tryd.pinned (.plain (OpenSpec.upto fnExactPathTextSpec)) fnExactPathTextUptoCard

/-- THE SECOND FORM's CARD OF 'laws.FnExactPathsIn'. -/
def fnExactPathsInUptoCard : Claim7 := { stood := { row := fnExactPathsInUptoRow, standIns := [], harness := (true, "5bf412e82e052a0394ec1381f26cd32e4f4d6850547fb28ce8624d8b0495de9e"), looks := false }, kinds := [], alts := [], laidByText := true, laidKinds := [.data, .data, .data, .data, .pinned], laidTests := true, laidLooks := .later }
def FnExactPathsInUptoCardSaid : Prop := Claim7.holds Tryd.pinned (.plain (OpenSpec.upto fnExactPathsInSpec)) fnExactPathsInUptoCard

/-- THE SECOND FORM's CARD OF 'laws.FnExactHasAt'. -/
def fnExactHasAtUptoCard : Claim7 := { stood := { row := fnExactHasAtUptoRow, standIns := [], harness := (true, "5bf412e82e052a0394ec1381f26cd32e4f4d6850547fb28ce8624d8b0495de9e"), looks := false }, kinds := [], alts := [], laidByText := true, laidKinds := [.data, .data, .data, .data, .pinned], laidTests := true, laidLooks := .later }
def FnExactHasAtUptoCardSaid : Prop := Claim7.holds Tryd.pinned (.plain (OpenSpec.upto fnExactHasAtSpec)) fnExactHasAtUptoCard
end Rows
end Go.Proofs.YthgjelbhhdomdaaDoor
