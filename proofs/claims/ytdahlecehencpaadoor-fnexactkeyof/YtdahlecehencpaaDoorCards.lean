/-
  DERIVED. GIVEN WITH THE SEED: THE CARDS: each row of YtdahlecehencpaaDoorRows.lean that lists a variable, with what it lists TIED to the program's text (the seventh form; the later family's looks); each row that meets fmt, with fmt's text TOLD by the authors' own Lean function (tested against real Go, not proved from fmt's source: count such statements apart). THE CARD IS WHAT COUNTS. Prove the row's statement (the work); the ties are given (YtdahlecehencpaaDoorTie.lean); close each card by the builder's one call (the guide's Derived/Test/ToyasCard.lean, 'card_holds'). Laid BY PROGRAM, IN A SANDBOX (cutbox-door.mjs). By AI agents, Wed Nov 11 2026. No macro, syntax, notation, axiom, sorry.
-/
import Derived.Test.YtdahlecehencpaaDoorRows
import GoSem.ClaimSeven
namespace Go.Proofs.YtdahlecehencpaaDoor
namespace Rows

/-- THE TIED CARD OF 'laws.FnSorted'. -/
def fnSortedCard : Claim7 := { stood := { row := fnSortedRow, standIns := [], harness := (true, "66dad02214e11226951242e288bcb4e1162585dbac91aa548d5ad3f62724ea8b"), looks := false }, kinds := [], alts := [], laidByText := true, laidKinds := [.data, .data, .data], laidTests := true, laidLooks := .later }
def FnSortedCardSaid : Prop := Claim7.holds Tryd.pinned (.plain (OpenSpec.ofChange fnSortedSpec)) fnSortedCard

/-- THE TIED CARD OF 'laws.FnExactTidyText'. -/
def fnExactTidyTextCard : Claim7 := { stood := { row := fnExactTidyTextRow, standIns := [], harness := (true, "66dad02214e11226951242e288bcb4e1162585dbac91aa548d5ad3f62724ea8b"), looks := false }, kinds := [], alts := [], laidByText := true, laidKinds := [.data, .data, .data], laidTests := true, laidLooks := .later }
def FnExactTidyTextCardSaid : Prop := Claim7.holds Tryd.pinned (.plain (OpenSpec.ofChange fnExactTidyTextSpec)) fnExactTidyTextCard

/-- THE TIED CARD OF 'laws.FnExactSubOf'. -/
def fnExactSubOfCard : Claim7 := { stood := { row := fnExactSubOfRow, standIns := [], harness := (true, "66dad02214e11226951242e288bcb4e1162585dbac91aa548d5ad3f62724ea8b"), looks := false }, kinds := [], alts := [], laidByText := true, laidKinds := [.data, .data, .data], laidTests := true, laidLooks := .later }
def FnExactSubOfCardSaid : Prop := Claim7.holds Tryd.pinned (.plain (OpenSpec.ofChange fnExactSubOfSpec)) fnExactSubOfCard

/-- THE TIED CARD OF 'laws.FnExactDeepOf'. -/
def fnExactDeepOfCard : Claim7 := { stood := { row := fnExactDeepOfRow, standIns := [], harness := (true, "66dad02214e11226951242e288bcb4e1162585dbac91aa548d5ad3f62724ea8b"), looks := false }, kinds := [], alts := [], laidByText := true, laidKinds := [.data, .data, .data], laidTests := true, laidLooks := .later }
def FnExactDeepOfCardSaid : Prop := Claim7.holds Tryd.pinned (.plain (OpenSpec.ofChange fnExactDeepOfSpec)) fnExactDeepOfCard

/-- THE TIED CARD OF 'laws.FnExactCompareValue'. -/
def fnExactCompareValueCard : Claim7 := { stood := { row := fnExactCompareValueRow, standIns := [], harness := (true, "66dad02214e11226951242e288bcb4e1162585dbac91aa548d5ad3f62724ea8b"), looks := false }, kinds := [], alts := [], laidByText := true, laidKinds := [.data, .data, .data], laidTests := true, laidLooks := .later }
def FnExactCompareValueCardSaid : Prop := Claim7.holds Tryd.pinned (.plain (OpenSpec.ofChange fnExactCompareValueSpec)) fnExactCompareValueCard

/-- THE TIED CARD OF 'laws.FnExactKeyOf'. -/
def fnExactKeyOfCard : Claim7 := { stood := { row := fnExactKeyOfRow, standIns := [], harness := (true, "66dad02214e11226951242e288bcb4e1162585dbac91aa548d5ad3f62724ea8b"), looks := false }, kinds := [], alts := [], laidByText := true, laidKinds := [.data, .data, .data, .data], laidTests := true, laidLooks := .later }
def FnExactKeyOfCardSaid : Prop := Claim7.holds Tryd.pinned (.plain (OpenSpec.ofChange fnExactKeyOfSpec)) fnExactKeyOfCard

/-- THE TIED CARD OF 'laws.FnExactReadKey'. -/
def fnExactReadKeyCard : Claim7 := { stood := { row := fnExactReadKeyRow, standIns := [], harness := (true, "66dad02214e11226951242e288bcb4e1162585dbac91aa548d5ad3f62724ea8b"), looks := false }, kinds := [], alts := [], laidByText := true, laidKinds := [.data, .data, .data, .data], laidTests := true, laidLooks := .later }
def FnExactReadKeyCardSaid : Prop := Claim7.holds Tryd.pinned (.plain (OpenSpec.ofChange fnExactReadKeySpec)) fnExactReadKeyCard

/-- THE TIED CARD OF 'laws.FnExactPairKey'. -/
def fnExactPairKeyCard : Claim7 := { stood := { row := fnExactPairKeyRow, standIns := [], harness := (true, "66dad02214e11226951242e288bcb4e1162585dbac91aa548d5ad3f62724ea8b"), looks := false }, kinds := [], alts := [], laidByText := true, laidKinds := [.data, .data, .data, .data], laidTests := true, laidLooks := .later }
def FnExactPairKeyCardSaid : Prop := Claim7.holds Tryd.pinned (.plain (OpenSpec.ofChange fnExactPairKeySpec)) fnExactPairKeyCard

/-- THE TIED CARD OF 'laws.FnExactSortValues'. -/
def fnExactSortValuesCard : Claim7 := { stood := { row := fnExactSortValuesRow, standIns := [], harness := (true, "66dad02214e11226951242e288bcb4e1162585dbac91aa548d5ad3f62724ea8b"), looks := false }, kinds := [], alts := [], laidByText := true, laidKinds := [.data, .data, .data], laidTests := true, laidLooks := .later }
def FnExactSortValuesCardSaid : Prop := Claim7.holds Tryd.pinned (.plain (OpenSpec.ofChange fnExactSortValuesSpec)) fnExactSortValuesCard

/-- THE SECOND FORM's CARD OF 'laws.FnSorted'. -/
def fnSortedUptoCard : Claim7 := { stood := { row := fnSortedUptoRow, standIns := [], harness := (true, "66dad02214e11226951242e288bcb4e1162585dbac91aa548d5ad3f62724ea8b"), looks := false }, kinds := [], alts := [], laidByText := true, laidKinds := [.data, .data, .data], laidTests := true, laidLooks := .later }
def FnSortedUptoCardSaid : Prop := Claim7.holds Tryd.pinned (.plain (OpenSpec.upto fnSortedSpec)) fnSortedUptoCard

/-- THE SECOND FORM's CARD OF 'laws.FnExactTidyText'. -/
def fnExactTidyTextUptoCard : Claim7 := { stood := { row := fnExactTidyTextUptoRow, standIns := [], harness := (true, "66dad02214e11226951242e288bcb4e1162585dbac91aa548d5ad3f62724ea8b"), looks := false }, kinds := [], alts := [], laidByText := true, laidKinds := [.data, .data, .data], laidTests := true, laidLooks := .later }
def FnExactTidyTextUptoCardSaid : Prop := Claim7.holds Tryd.pinned (.plain (OpenSpec.upto fnExactTidyTextSpec)) fnExactTidyTextUptoCard

/-- THE SECOND FORM's CARD OF 'laws.FnExactSubOf'. -/
def fnExactSubOfUptoCard : Claim7 := { stood := { row := fnExactSubOfUptoRow, standIns := [], harness := (true, "66dad02214e11226951242e288bcb4e1162585dbac91aa548d5ad3f62724ea8b"), looks := false }, kinds := [], alts := [], laidByText := true, laidKinds := [.data, .data, .data], laidTests := true, laidLooks := .later }
def FnExactSubOfUptoCardSaid : Prop := Claim7.holds Tryd.pinned (.plain (OpenSpec.upto fnExactSubOfSpec)) fnExactSubOfUptoCard

/-- THE SECOND FORM's CARD OF 'laws.FnExactDeepOf'. -/
def fnExactDeepOfUptoCard : Claim7 := { stood := { row := fnExactDeepOfUptoRow, standIns := [], harness := (true, "66dad02214e11226951242e288bcb4e1162585dbac91aa548d5ad3f62724ea8b"), looks := false }, kinds := [], alts := [], laidByText := true, laidKinds := [.data, .data, .data], laidTests := true, laidLooks := .later }
def FnExactDeepOfUptoCardSaid : Prop := Claim7.holds Tryd.pinned (.plain (OpenSpec.upto fnExactDeepOfSpec)) fnExactDeepOfUptoCard

/-- THE SECOND FORM's CARD OF 'laws.FnExactCompareValue'. -/
def fnExactCompareValueUptoCard : Claim7 := { stood := { row := fnExactCompareValueUptoRow, standIns := [], harness := (true, "66dad02214e11226951242e288bcb4e1162585dbac91aa548d5ad3f62724ea8b"), looks := false }, kinds := [], alts := [], laidByText := true, laidKinds := [.data, .data, .data], laidTests := true, laidLooks := .later }
def FnExactCompareValueUptoCardSaid : Prop := Claim7.holds Tryd.pinned (.plain (OpenSpec.upto fnExactCompareValueSpec)) fnExactCompareValueUptoCard

/-- THE SECOND FORM's CARD OF 'laws.FnExactKeyOf'. -/
def fnExactKeyOfUptoCard : Claim7 := { stood := { row := fnExactKeyOfUptoRow, standIns := [], harness := (true, "66dad02214e11226951242e288bcb4e1162585dbac91aa548d5ad3f62724ea8b"), looks := false }, kinds := [], alts := [], laidByText := true, laidKinds := [.data, .data, .data, .data], laidTests := true, laidLooks := .later }
def FnExactKeyOfUptoCardSaid : Prop := Claim7.holds Tryd.pinned (.plain (OpenSpec.upto fnExactKeyOfSpec)) fnExactKeyOfUptoCard

/-- THE SECOND FORM's CARD OF 'laws.FnExactReadKey'. -/
def fnExactReadKeyUptoCard : Claim7 := { stood := { row := fnExactReadKeyUptoRow, standIns := [], harness := (true, "66dad02214e11226951242e288bcb4e1162585dbac91aa548d5ad3f62724ea8b"), looks := false }, kinds := [], alts := [], laidByText := true, laidKinds := [.data, .data, .data, .data], laidTests := true, laidLooks := .later }
def FnExactReadKeyUptoCardSaid : Prop := Claim7.holds Tryd.pinned (.plain (OpenSpec.upto fnExactReadKeySpec)) fnExactReadKeyUptoCard

/-- THE SECOND FORM's CARD OF 'laws.FnExactPairKey'. -/
def fnExactPairKeyUptoCard : Claim7 := { stood := { row := fnExactPairKeyUptoRow, standIns := [], harness := (true, "66dad02214e11226951242e288bcb4e1162585dbac91aa548d5ad3f62724ea8b"), looks := false }, kinds := [], alts := [], laidByText := true, laidKinds := [.data, .data, .data, .data], laidTests := true, laidLooks := .later }
def FnExactPairKeyUptoCardSaid : Prop := Claim7.holds Tryd.pinned (.plain (OpenSpec.upto fnExactPairKeySpec)) fnExactPairKeyUptoCard

/-- THE SECOND FORM's CARD OF 'laws.FnExactSortValues'. -/
def fnExactSortValuesUptoCard : Claim7 := { stood := { row := fnExactSortValuesUptoRow, standIns := [], harness := (true, "66dad02214e11226951242e288bcb4e1162585dbac91aa548d5ad3f62724ea8b"), looks := false }, kinds := [], alts := [], laidByText := true, laidKinds := [.data, .data, .data], laidTests := true, laidLooks := .later }
def FnExactSortValuesUptoCardSaid : Prop := Claim7.holds Tryd.pinned (.plain (OpenSpec.upto fnExactSortValuesSpec)) fnExactSortValuesUptoCard
end Rows
end Go.Proofs.YtdahlecehencpaaDoor
