/-
  DERIVED. GIVEN WITH THE SEED: THE CARDS: each row of YtkfchcmbpgcncaaDoorRows.lean that lists a variable, with what it lists TIED to the program's text (the seventh form; the later family's looks); each row that meets fmt, with fmt's text TOLD by the authors' own Lean function (tested against real Go, not proved from fmt's source: count such statements apart). THE CARD IS WHAT COUNTS. Prove the row's statement (the work); the ties are given (YtkfchcmbpgcncaaDoorTie.lean); close each card by the builder's one call (the guide's Derived/Test/ToyasCard.lean, 'card_holds'). Laid BY PROGRAM, IN A SANDBOX (cutbox-door.mjs). By AI agents, Wed Nov 11 2026. No macro, syntax, notation, axiom, sorry.
-/
import Derived.Test.YtkfchcmbpgcncaaDoorRows
import GoSem.ClaimSeven
namespace Go.Proofs.YtkfchcmbpgcncaaDoor
namespace Rows

/-- THE TIED CARD OF 'unicodetextlaw05.EscapeTexts'. -/
def escapeTextsCard : Claim7 := { stood := { row := escapeTextsRow, standIns := [], harness := (true, "13db18a86ae15afad6a1cb56d41b180ff363a3c174717dce0b6357ee661ca20c"), looks := false }, kinds := [], alts := [], laidByText := true, laidKinds := [.data, .data, .pinned], laidTests := true, laidLooks := .later }
def EscapeTextsCardSaid : Prop := Claim7.holds Tryd.pinned (.plain (OpenSpec.ofChange escapeTextsSpec)) escapeTextsCard

/-- THE TIED CARD OF 'unicodetextlaw05.EscapeCodes'. -/
def escapeCodesCard : Claim7 := { stood := { row := escapeCodesRow, standIns := [], harness := (true, "13db18a86ae15afad6a1cb56d41b180ff363a3c174717dce0b6357ee661ca20c"), looks := false }, kinds := [], alts := [], laidByText := true, laidKinds := [.data, .data, .pinned], laidTests := true, laidLooks := .later }
def EscapeCodesCardSaid : Prop := Claim7.holds Tryd.pinned (.plain (OpenSpec.ofChange escapeCodesSpec)) escapeCodesCard

/-- THE TIED CARD OF 'unicodetextlaw05.EscapeReads'. -/
def escapeReadsCard : Claim7 := { stood := { row := escapeReadsRow, standIns := [], harness := (true, "13db18a86ae15afad6a1cb56d41b180ff363a3c174717dce0b6357ee661ca20c"), looks := false }, kinds := [], alts := [], laidByText := true, laidKinds := [.data, .data, .pinned], laidTests := true, laidLooks := .later }
def EscapeReadsCardSaid : Prop := Claim7.holds Tryd.pinned (.plain (OpenSpec.ofChange escapeReadsSpec)) escapeReadsCard

/-- THE TIED CARD OF 'unicodetextlaw05.EscapeBack'. -/
def escapeBackCard : Claim7 := { stood := { row := escapeBackRow, standIns := [], harness := (true, "13db18a86ae15afad6a1cb56d41b180ff363a3c174717dce0b6357ee661ca20c"), looks := false }, kinds := [], alts := [], laidByText := true, laidKinds := [.data, .data, .pinned], laidTests := true, laidLooks := .later }
def EscapeBackCardSaid : Prop := Claim7.holds Tryd.pinned (.plain (OpenSpec.ofChange escapeBackSpec)) escapeBackCard

/-- THE TIED CARD OF 'unicodetextlaw05.EscapeAgain'. -/
def escapeAgainCard : Claim7 := { stood := { row := escapeAgainRow, standIns := [], harness := (true, "13db18a86ae15afad6a1cb56d41b180ff363a3c174717dce0b6357ee661ca20c"), looks := false }, kinds := [], alts := [], laidByText := true, laidKinds := [.data, .data, .pinned], laidTests := true, laidLooks := .later }
def EscapeAgainCardSaid : Prop := Claim7.holds Tryd.pinned (.plain (OpenSpec.ofChange escapeAgainSpec)) escapeAgainCard

/-- THE TIED CARD OF 'unicodetextlaw05.EscapeAscii'. -/
def escapeAsciiCard : Claim7 := { stood := { row := escapeAsciiRow, standIns := [], harness := (true, "13db18a86ae15afad6a1cb56d41b180ff363a3c174717dce0b6357ee661ca20c"), looks := false }, kinds := [], alts := [], laidByText := true, laidKinds := [.data, .data, .pinned], laidTests := true, laidLooks := .later }
def EscapeAsciiCardSaid : Prop := Claim7.holds Tryd.pinned (.plain (OpenSpec.ofChange escapeAsciiSpec)) escapeAsciiCard

/-- THE TIED CARD OF 'unicodetextlaw05.EscapeJoins'. -/
def escapeJoinsCard : Claim7 := { stood := { row := escapeJoinsRow, standIns := [], harness := (true, "13db18a86ae15afad6a1cb56d41b180ff363a3c174717dce0b6357ee661ca20c"), looks := false }, kinds := [], alts := [], laidByText := true, laidKinds := [.data, .data, .pinned], laidTests := true, laidLooks := .later }
def EscapeJoinsCardSaid : Prop := Claim7.holds Tryd.pinned (.plain (OpenSpec.ofChange escapeJoinsSpec)) escapeJoinsCard

/-- THE TIED CARD OF 'unicodetextlaw05.EscapeForms'. -/
def escapeFormsCard : Claim7 := { stood := { row := escapeFormsRow, standIns := [], harness := (true, "13db18a86ae15afad6a1cb56d41b180ff363a3c174717dce0b6357ee661ca20c"), looks := false }, kinds := [], alts := [], laidByText := true, laidKinds := [.data, .data, .pinned], laidTests := true, laidLooks := .later }
def EscapeFormsCardSaid : Prop := Claim7.holds Tryd.pinned (.plain (OpenSpec.ofChange escapeFormsSpec)) escapeFormsCard

/-- THE TIED CARD OF 'unicodetextlaw05.EscapePlaces'. -/
def escapePlacesCard : Claim7 := { stood := { row := escapePlacesRow, standIns := [], harness := (true, "13db18a86ae15afad6a1cb56d41b180ff363a3c174717dce0b6357ee661ca20c"), looks := false }, kinds := [], alts := [], laidByText := true, laidKinds := [.data, .data, .pinned], laidTests := true, laidLooks := .later }
def EscapePlacesCardSaid : Prop := Claim7.holds Tryd.pinned (.plain (OpenSpec.ofChange escapePlacesSpec)) escapePlacesCard

/-- THE SECOND FORM's CARD OF 'unicodetextlaw05.EscapeTexts'. -/
def escapeTextsUptoCard : Claim7 := { stood := { row := escapeTextsUptoRow, standIns := [], harness := (true, "13db18a86ae15afad6a1cb56d41b180ff363a3c174717dce0b6357ee661ca20c"), looks := false }, kinds := [], alts := [], laidByText := true, laidKinds := [.data, .data, .pinned], laidTests := true, laidLooks := .later }
def EscapeTextsUptoCardSaid : Prop := Claim7.holds Tryd.pinned (.plain (OpenSpec.upto escapeTextsSpec)) escapeTextsUptoCard

/-- THE SECOND FORM's CARD OF 'unicodetextlaw05.EscapeCodes'. -/
def escapeCodesUptoCard : Claim7 := { stood := { row := escapeCodesUptoRow, standIns := [], harness := (true, "13db18a86ae15afad6a1cb56d41b180ff363a3c174717dce0b6357ee661ca20c"), looks := false }, kinds := [], alts := [], laidByText := true, laidKinds := [.data, .data, .pinned], laidTests := true, laidLooks := .later }
def EscapeCodesUptoCardSaid : Prop := Claim7.holds Tryd.pinned (.plain (OpenSpec.upto escapeCodesSpec)) escapeCodesUptoCard

/-- THE SECOND FORM's CARD OF 'unicodetextlaw05.EscapeReads'. -/
def escapeReadsUptoCard : Claim7 := { stood := { row := escapeReadsUptoRow, standIns := [], harness := (true, "13db18a86ae15afad6a1cb56d41b180ff363a3c174717dce0b6357ee661ca20c"), looks := false }, kinds := [], alts := [], laidByText := true, laidKinds := [.data, .data, .pinned], laidTests := true, laidLooks := .later }
def EscapeReadsUptoCardSaid : Prop := Claim7.holds Tryd.pinned (.plain (OpenSpec.upto escapeReadsSpec)) escapeReadsUptoCard

/-- THE SECOND FORM's CARD OF 'unicodetextlaw05.EscapeBack'. -/
def escapeBackUptoCard : Claim7 := { stood := { row := escapeBackUptoRow, standIns := [], harness := (true, "13db18a86ae15afad6a1cb56d41b180ff363a3c174717dce0b6357ee661ca20c"), looks := false }, kinds := [], alts := [], laidByText := true, laidKinds := [.data, .data, .pinned], laidTests := true, laidLooks := .later }
def EscapeBackUptoCardSaid : Prop := Claim7.holds Tryd.pinned (.plain (OpenSpec.upto escapeBackSpec)) escapeBackUptoCard

/-- THE SECOND FORM's CARD OF 'unicodetextlaw05.EscapeAgain'. -/
def escapeAgainUptoCard : Claim7 := { stood := { row := escapeAgainUptoRow, standIns := [], harness := (true, "13db18a86ae15afad6a1cb56d41b180ff363a3c174717dce0b6357ee661ca20c"), looks := false }, kinds := [], alts := [], laidByText := true, laidKinds := [.data, .data, .pinned], laidTests := true, laidLooks := .later }
def EscapeAgainUptoCardSaid : Prop := Claim7.holds Tryd.pinned (.plain (OpenSpec.upto escapeAgainSpec)) escapeAgainUptoCard

/-- THE SECOND FORM's CARD OF 'unicodetextlaw05.EscapeAscii'. -/
def escapeAsciiUptoCard : Claim7 := { stood := { row := escapeAsciiUptoRow, standIns := [], harness := (true, "13db18a86ae15afad6a1cb56d41b180ff363a3c174717dce0b6357ee661ca20c"), looks := false }, kinds := [], alts := [], laidByText := true, laidKinds := [.data, .data, .pinned], laidTests := true, laidLooks := .later }
def EscapeAsciiUptoCardSaid : Prop := Claim7.holds Tryd.pinned (.plain (OpenSpec.upto escapeAsciiSpec)) escapeAsciiUptoCard

/-- THE SECOND FORM's CARD OF 'unicodetextlaw05.EscapeJoins'. -/
def escapeJoinsUptoCard : Claim7 := { stood := { row := escapeJoinsUptoRow, standIns := [], harness := (true, "13db18a86ae15afad6a1cb56d41b180ff363a3c174717dce0b6357ee661ca20c"), looks := false }, kinds := [], alts := [], laidByText := true, laidKinds := [.data, .data, .pinned], laidTests := true, laidLooks := .later }
def EscapeJoinsUptoCardSaid : Prop := Claim7.holds Tryd.pinned (.plain (OpenSpec.upto escapeJoinsSpec)) escapeJoinsUptoCard

/-- THE SECOND FORM's CARD OF 'unicodetextlaw05.EscapeForms'. -/
def escapeFormsUptoCard : Claim7 := { stood := { row := escapeFormsUptoRow, standIns := [], harness := (true, "13db18a86ae15afad6a1cb56d41b180ff363a3c174717dce0b6357ee661ca20c"), looks := false }, kinds := [], alts := [], laidByText := true, laidKinds := [.data, .data, .pinned], laidTests := true, laidLooks := .later }
def EscapeFormsUptoCardSaid : Prop := Claim7.holds Tryd.pinned (.plain (OpenSpec.upto escapeFormsSpec)) escapeFormsUptoCard

/-- THE SECOND FORM's CARD OF 'unicodetextlaw05.EscapePlaces'. -/
def escapePlacesUptoCard : Claim7 := { stood := { row := escapePlacesUptoRow, standIns := [], harness := (true, "13db18a86ae15afad6a1cb56d41b180ff363a3c174717dce0b6357ee661ca20c"), looks := false }, kinds := [], alts := [], laidByText := true, laidKinds := [.data, .data, .pinned], laidTests := true, laidLooks := .later }
def EscapePlacesUptoCardSaid : Prop := Claim7.holds Tryd.pinned (.plain (OpenSpec.upto escapePlacesSpec)) escapePlacesUptoCard
end Rows
end Go.Proofs.YtkfchcmbpgcncaaDoor
