/-
  DERIVED. GIVEN WITH THE SEED: THE CARDS: each row of YtjfhhcaikapfiaaDoorRows.lean that lists a variable, with what it lists TIED to the program's text (the seventh form; the later family's looks); each row that meets fmt, with fmt's text TOLD by the authors' own Lean function (tested against real Go, not proved from fmt's source: count such statements apart). THE CARD IS WHAT COUNTS. Prove the row's statement (the work); the ties are given (YtjfhhcaikapfiaaDoorTie.lean); close each card by the builder's one call (the guide's Derived/Test/ToyasCard.lean, 'card_holds'). Laid BY PROGRAM, IN A SANDBOX (cutbox-door.mjs). By AI agents, Wed Nov 11 2026. No macro, syntax, notation, axiom, sorry.
-/
import Derived.Test.YtjfhhcaikapfiaaDoorRows
import GoSem.ClaimSeven
namespace Go.Proofs.YtjfhhcaikapfiaaDoor
namespace Rows

/-- THE TIED CARD OF 'unicodetextlaw04.Utf16textEncodes'. -/
def utf16textEncodesCard : Claim7 := { stood := { row := utf16textEncodesRow, standIns := [], harness := (true, "4ad266558b02d0862e010b9768c4fa1caa107fe1be8884692930160e9ec1f9c4"), looks := false }, kinds := [], alts := [], laidByText := true, laidKinds := [.data], laidTests := true, laidLooks := .later }
def Utf16textEncodesCardSaid : Prop := Claim7.holds Tryd.pinned (.plain (OpenSpec.ofChange utf16textEncodesSpec)) utf16textEncodesCard

/-- THE TIED CARD OF 'unicodetextlaw04.Utf16textDecodes'. -/
def utf16textDecodesCard : Claim7 := { stood := { row := utf16textDecodesRow, standIns := [], harness := (true, "4ad266558b02d0862e010b9768c4fa1caa107fe1be8884692930160e9ec1f9c4"), looks := false }, kinds := [], alts := [], laidByText := true, laidKinds := [.data], laidTests := true, laidLooks := .later }
def Utf16textDecodesCardSaid : Prop := Claim7.holds Tryd.pinned (.plain (OpenSpec.ofChange utf16textDecodesSpec)) utf16textDecodesCard

/-- THE TIED CARD OF 'unicodetextlaw04.Utf16textBytes'. -/
def utf16textBytesCard : Claim7 := { stood := { row := utf16textBytesRow, standIns := [], harness := (true, "4ad266558b02d0862e010b9768c4fa1caa107fe1be8884692930160e9ec1f9c4"), looks := false }, kinds := [], alts := [], laidByText := true, laidKinds := [.data], laidTests := true, laidLooks := .later }
def Utf16textBytesCardSaid : Prop := Claim7.holds Tryd.pinned (.plain (OpenSpec.ofChange utf16textBytesSpec)) utf16textBytesCard

/-- THE TIED CARD OF 'unicodetextlaw04.Utf16textReturns'. -/
def utf16textReturnsCard : Claim7 := { stood := { row := utf16textReturnsRow, standIns := [], harness := (true, "4ad266558b02d0862e010b9768c4fa1caa107fe1be8884692930160e9ec1f9c4"), looks := false }, kinds := [], alts := [], laidByText := true, laidKinds := [.data], laidTests := true, laidLooks := .later }
def Utf16textReturnsCardSaid : Prop := Claim7.holds Tryd.pinned (.plain (OpenSpec.ofChange utf16textReturnsSpec)) utf16textReturnsCard

/-- THE TIED CARD OF 'unicodetextlaw04.Utf16textMarks'. -/
def utf16textMarksCard : Claim7 := { stood := { row := utf16textMarksRow, standIns := [], harness := (true, "4ad266558b02d0862e010b9768c4fa1caa107fe1be8884692930160e9ec1f9c4"), looks := false }, kinds := [], alts := [], laidByText := true, laidKinds := [.data], laidTests := true, laidLooks := .later }
def Utf16textMarksCardSaid : Prop := Claim7.holds Tryd.pinned (.plain (OpenSpec.ofChange utf16textMarksSpec)) utf16textMarksCard

/-- THE TIED CARD OF 'unicodetextlaw04.Utf16textPieces'. -/
def utf16textPiecesCard : Claim7 := { stood := { row := utf16textPiecesRow, standIns := [], harness := (true, "4ad266558b02d0862e010b9768c4fa1caa107fe1be8884692930160e9ec1f9c4"), looks := false }, kinds := [], alts := [], laidByText := true, laidKinds := [.data], laidTests := true, laidLooks := .later }
def Utf16textPiecesCardSaid : Prop := Claim7.holds Tryd.pinned (.plain (OpenSpec.ofChange utf16textPiecesSpec)) utf16textPiecesCard

/-- THE TIED CARD OF 'unicodetextlaw04.Utf16textWhole'. -/
def utf16textWholeCard : Claim7 := { stood := { row := utf16textWholeRow, standIns := [], harness := (true, "4ad266558b02d0862e010b9768c4fa1caa107fe1be8884692930160e9ec1f9c4"), looks := false }, kinds := [], alts := [], laidByText := true, laidKinds := [.data], laidTests := true, laidLooks := .later }
def Utf16textWholeCardSaid : Prop := Claim7.holds Tryd.pinned (.plain (OpenSpec.ofChange utf16textWholeSpec)) utf16textWholeCard

/-- THE SECOND FORM's CARD OF 'unicodetextlaw04.Utf16textEncodes'. -/
def utf16textEncodesUptoCard : Claim7 := { stood := { row := utf16textEncodesUptoRow, standIns := [], harness := (true, "4ad266558b02d0862e010b9768c4fa1caa107fe1be8884692930160e9ec1f9c4"), looks := false }, kinds := [], alts := [], laidByText := true, laidKinds := [.data], laidTests := true, laidLooks := .later }
def Utf16textEncodesUptoCardSaid : Prop := Claim7.holds Tryd.pinned (.plain (OpenSpec.upto utf16textEncodesSpec)) utf16textEncodesUptoCard

/-- THE SECOND FORM's CARD OF 'unicodetextlaw04.Utf16textDecodes'. -/
def utf16textDecodesUptoCard : Claim7 := { stood := { row := utf16textDecodesUptoRow, standIns := [], harness := (true, "4ad266558b02d0862e010b9768c4fa1caa107fe1be8884692930160e9ec1f9c4"), looks := false }, kinds := [], alts := [], laidByText := true, laidKinds := [.data], laidTests := true, laidLooks := .later }
def Utf16textDecodesUptoCardSaid : Prop := Claim7.holds Tryd.pinned (.plain (OpenSpec.upto utf16textDecodesSpec)) utf16textDecodesUptoCard

/-- THE SECOND FORM's CARD OF 'unicodetextlaw04.Utf16textBytes'. -/
def utf16textBytesUptoCard : Claim7 := { stood := { row := utf16textBytesUptoRow, standIns := [], harness := (true, "4ad266558b02d0862e010b9768c4fa1caa107fe1be8884692930160e9ec1f9c4"), looks := false }, kinds := [], alts := [], laidByText := true, laidKinds := [.data], laidTests := true, laidLooks := .later }
def Utf16textBytesUptoCardSaid : Prop := Claim7.holds Tryd.pinned (.plain (OpenSpec.upto utf16textBytesSpec)) utf16textBytesUptoCard

/-- THE SECOND FORM's CARD OF 'unicodetextlaw04.Utf16textReturns'. -/
def utf16textReturnsUptoCard : Claim7 := { stood := { row := utf16textReturnsUptoRow, standIns := [], harness := (true, "4ad266558b02d0862e010b9768c4fa1caa107fe1be8884692930160e9ec1f9c4"), looks := false }, kinds := [], alts := [], laidByText := true, laidKinds := [.data], laidTests := true, laidLooks := .later }
def Utf16textReturnsUptoCardSaid : Prop := Claim7.holds Tryd.pinned (.plain (OpenSpec.upto utf16textReturnsSpec)) utf16textReturnsUptoCard

/-- THE SECOND FORM's CARD OF 'unicodetextlaw04.Utf16textMarks'. -/
def utf16textMarksUptoCard : Claim7 := { stood := { row := utf16textMarksUptoRow, standIns := [], harness := (true, "4ad266558b02d0862e010b9768c4fa1caa107fe1be8884692930160e9ec1f9c4"), looks := false }, kinds := [], alts := [], laidByText := true, laidKinds := [.data], laidTests := true, laidLooks := .later }
def Utf16textMarksUptoCardSaid : Prop := Claim7.holds Tryd.pinned (.plain (OpenSpec.upto utf16textMarksSpec)) utf16textMarksUptoCard

/-- THE SECOND FORM's CARD OF 'unicodetextlaw04.Utf16textPieces'. -/
def utf16textPiecesUptoCard : Claim7 := { stood := { row := utf16textPiecesUptoRow, standIns := [], harness := (true, "4ad266558b02d0862e010b9768c4fa1caa107fe1be8884692930160e9ec1f9c4"), looks := false }, kinds := [], alts := [], laidByText := true, laidKinds := [.data], laidTests := true, laidLooks := .later }
def Utf16textPiecesUptoCardSaid : Prop := Claim7.holds Tryd.pinned (.plain (OpenSpec.upto utf16textPiecesSpec)) utf16textPiecesUptoCard

/-- THE SECOND FORM's CARD OF 'unicodetextlaw04.Utf16textWhole'. -/
def utf16textWholeUptoCard : Claim7 := { stood := { row := utf16textWholeUptoRow, standIns := [], harness := (true, "4ad266558b02d0862e010b9768c4fa1caa107fe1be8884692930160e9ec1f9c4"), looks := false }, kinds := [], alts := [], laidByText := true, laidKinds := [.data], laidTests := true, laidLooks := .later }
def Utf16textWholeUptoCardSaid : Prop := Claim7.holds Tryd.pinned (.plain (OpenSpec.upto utf16textWholeSpec)) utf16textWholeUptoCard
end Rows
end Go.Proofs.YtjfhhcaikapfiaaDoor
