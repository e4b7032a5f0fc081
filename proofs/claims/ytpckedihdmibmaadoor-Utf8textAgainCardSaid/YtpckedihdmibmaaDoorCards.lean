/-
  DERIVED. GIVEN WITH THE SEED: THE CARDS: each row of YtpckedihdmibmaaDoorRows.lean that lists a variable, with what it lists TIED to the program's text (the seventh form; the later family's looks); each row that meets fmt, with fmt's text TOLD by the authors' own Lean function (tested against real Go, not proved from fmt's source: count such statements apart). THE CARD IS WHAT COUNTS. Prove the row's statement (the work); the ties are given (YtpckedihdmibmaaDoorTie.lean); close each card by the builder's one call (the guide's Derived/Test/ToyasCard.lean, 'card_holds'). Laid BY PROGRAM, IN A SANDBOX (cutbox-door.mjs). By AI agents, Wed Nov 11 2026. No macro, syntax, notation, axiom, sorry.
-/
import Derived.Test.YtpckedihdmibmaaDoorRows
import GoSem.ClaimSeven
namespace Go.Proofs.YtpckedihdmibmaaDoor
namespace Rows

/-- THE TIED CARD OF 'unicodetextlaw03.Utf8textForms'. -/
def utf8textFormsCard : Claim7 := { stood := { row := utf8textFormsRow, standIns := [], harness := (true, "4445bc2dfb8aa2fcf535f9e286c1919c8fd977ce69db8d0c271b6be1d1756cf9"), looks := false }, kinds := [], alts := [], laidByText := true, laidKinds := [.data, .data], laidTests := true, laidLooks := .later }
def Utf8textFormsCardSaid : Prop := Claim7.holds Tryd.pinned (.plain (OpenSpec.ofChange utf8textFormsSpec)) utf8textFormsCard

/-- THE TIED CARD OF 'unicodetextlaw03.Utf8textEncodes'. -/
def utf8textEncodesCard : Claim7 := { stood := { row := utf8textEncodesRow, standIns := [], harness := (true, "4445bc2dfb8aa2fcf535f9e286c1919c8fd977ce69db8d0c271b6be1d1756cf9"), looks := false }, kinds := [], alts := [], laidByText := true, laidKinds := [.data, .data], laidTests := true, laidLooks := .later }
def Utf8textEncodesCardSaid : Prop := Claim7.holds Tryd.pinned (.plain (OpenSpec.ofChange utf8textEncodesSpec)) utf8textEncodesCard

/-- THE TIED CARD OF 'unicodetextlaw03.Utf8textSteps'. -/
def utf8textStepsCard : Claim7 := { stood := { row := utf8textStepsRow, standIns := [], harness := (true, "4445bc2dfb8aa2fcf535f9e286c1919c8fd977ce69db8d0c271b6be1d1756cf9"), looks := false }, kinds := [], alts := [], laidByText := true, laidKinds := [.data, .data], laidTests := true, laidLooks := .later }
def Utf8textStepsCardSaid : Prop := Claim7.holds Tryd.pinned (.plain (OpenSpec.ofChange utf8textStepsSpec)) utf8textStepsCard

/-- THE TIED CARD OF 'unicodetextlaw03.Utf8textDecodes'. -/
def utf8textDecodesCard : Claim7 := { stood := { row := utf8textDecodesRow, standIns := [], harness := (true, "4445bc2dfb8aa2fcf535f9e286c1919c8fd977ce69db8d0c271b6be1d1756cf9"), looks := false }, kinds := [], alts := [], laidByText := true, laidKinds := [.data, .data], laidTests := true, laidLooks := .later }
def Utf8textDecodesCardSaid : Prop := Claim7.holds Tryd.pinned (.plain (OpenSpec.ofChange utf8textDecodesSpec)) utf8textDecodesCard

/-- THE TIED CARD OF 'unicodetextlaw03.Utf8textBack'. -/
def utf8textBackCard : Claim7 := { stood := { row := utf8textBackRow, standIns := [], harness := (true, "4445bc2dfb8aa2fcf535f9e286c1919c8fd977ce69db8d0c271b6be1d1756cf9"), looks := false }, kinds := [], alts := [], laidByText := true, laidKinds := [.data, .data], laidTests := true, laidLooks := .later }
def Utf8textBackCardSaid : Prop := Claim7.holds Tryd.pinned (.plain (OpenSpec.ofChange utf8textBackSpec)) utf8textBackCard

/-- THE TIED CARD OF 'unicodetextlaw03.Utf8textAgain'. -/
def utf8textAgainCard : Claim7 := { stood := { row := utf8textAgainRow, standIns := [], harness := (true, "4445bc2dfb8aa2fcf535f9e286c1919c8fd977ce69db8d0c271b6be1d1756cf9"), looks := false }, kinds := [], alts := [], laidByText := true, laidKinds := [.data, .data], laidTests := true, laidLooks := .later }
def Utf8textAgainCardSaid : Prop := Claim7.holds Tryd.pinned (.plain (OpenSpec.ofChange utf8textAgainSpec)) utf8textAgainCard

/-- THE TIED CARD OF 'unicodetextlaw03.Utf8textPieces'. -/
def utf8textPiecesCard : Claim7 := { stood := { row := utf8textPiecesRow, standIns := [], harness := (true, "4445bc2dfb8aa2fcf535f9e286c1919c8fd977ce69db8d0c271b6be1d1756cf9"), looks := false }, kinds := [], alts := [], laidByText := true, laidKinds := [.data, .data], laidTests := true, laidLooks := .later }
def Utf8textPiecesCardSaid : Prop := Claim7.holds Tryd.pinned (.plain (OpenSpec.ofChange utf8textPiecesSpec)) utf8textPiecesCard

/-- THE TIED CARD OF 'unicodetextlaw03.Utf8textOrders'. -/
def utf8textOrdersCard : Claim7 := { stood := { row := utf8textOrdersRow, standIns := [], harness := (true, "4445bc2dfb8aa2fcf535f9e286c1919c8fd977ce69db8d0c271b6be1d1756cf9"), looks := false }, kinds := [], alts := [], laidByText := true, laidKinds := [.data, .data], laidTests := true, laidLooks := .later }
def Utf8textOrdersCardSaid : Prop := Claim7.holds Tryd.pinned (.plain (OpenSpec.ofChange utf8textOrdersSpec)) utf8textOrdersCard

/-- THE SECOND FORM's CARD OF 'unicodetextlaw03.Utf8textForms'. -/
def utf8textFormsUptoCard : Claim7 := { stood := { row := utf8textFormsUptoRow, standIns := [], harness := (true, "4445bc2dfb8aa2fcf535f9e286c1919c8fd977ce69db8d0c271b6be1d1756cf9"), looks := false }, kinds := [], alts := [], laidByText := true, laidKinds := [.data, .data], laidTests := true, laidLooks := .later }
def Utf8textFormsUptoCardSaid : Prop := Claim7.holds Tryd.pinned (.plain (OpenSpec.upto utf8textFormsSpec)) utf8textFormsUptoCard

/-- THE SECOND FORM's CARD OF 'unicodetextlaw03.Utf8textEncodes'. -/
def utf8textEncodesUptoCard : Claim7 := { stood := { row := utf8textEncodesUptoRow, standIns := [], harness := (true, "4445bc2dfb8aa2fcf535f9e286c1919c8fd977ce69db8d0c271b6be1d1756cf9"), looks := false }, kinds := [], alts := [], laidByText := true, laidKinds := [.data, .data], laidTests := true, laidLooks := .later }
def Utf8textEncodesUptoCardSaid : Prop := Claim7.holds Tryd.pinned (.plain (OpenSpec.upto utf8textEncodesSpec)) utf8textEncodesUptoCard

/-- THE SECOND FORM's CARD OF 'unicodetextlaw03.Utf8textSteps'. -/
def utf8textStepsUptoCard : Claim7 := { stood := { row := utf8textStepsUptoRow, standIns := [], harness := (true, "4445bc2dfb8aa2fcf535f9e286c1919c8fd977ce69db8d0c271b6be1d1756cf9"), looks := false }, kinds := [], alts := [], laidByText := true, laidKinds := [.data, .data], laidTests := true, laidLooks := .later }
def Utf8textStepsUptoCardSaid : Prop := Claim7.holds Tryd.pinned (.plain (OpenSpec.upto utf8textStepsSpec)) utf8textStepsUptoCard

/-- THE SECOND FORM's CARD OF 'unicodetextlaw03.Utf8textDecodes'. -/
def utf8textDecodesUptoCard : Claim7 := { stood := { row := utf8textDecodesUptoRow, standIns := [], harness := (true, "4445bc2dfb8aa2fcf535f9e286c1919c8fd977ce69db8d0c271b6be1d1756cf9"), looks := false }, kinds := [], alts := [], laidByText := true, laidKinds := [.data, .data], laidTests := true, laidLooks := .later }
def Utf8textDecodesUptoCardSaid : Prop := Claim7.holds Tryd.pinned (.plain (OpenSpec.upto utf8textDecodesSpec)) utf8textDecodesUptoCard

/-- THE SECOND FORM's CARD OF 'unicodetextlaw03.Utf8textBack'. -/
def utf8textBackUptoCard : Claim7 := { stood := { row := utf8textBackUptoRow, standIns := [], harness := (true, "4445bc2dfb8aa2fcf535f9e286c1919c8fd977ce69db8d0c271b6be1d1756cf9"), looks := false }, kinds := [], alts := [], laidByText := true, laidKinds := [.data, .data], laidTests := true, laidLooks := .later }
def Utf8textBackUptoCardSaid : Prop := Claim7.holds Tryd.pinned (.plain (OpenSpec.upto utf8textBackSpec)) utf8textBackUptoCard

/-- THE SECOND FORM's CARD OF 'unicodetextlaw03.Utf8textAgain'. -/
def utf8textAgainUptoCard : Claim7 := { stood := { row := utf8textAgainUptoRow, standIns := [], harness := (true, "4445bc2dfb8aa2fcf535f9e286c1919c8fd977ce69db8d0c271b6be1d1756cf9"), looks := false }, kinds := [], alts := [], laidByText := true, laidKinds := [.data, .data], laidTests := true, laidLooks := .later }
def Utf8textAgainUptoCardSaid : Prop := Claim7.holds Tryd.pinned (.plain (OpenSpec.upto utf8textAgainSpec)) utf8textAgainUptoCard

/-- THE SECOND FORM's CARD OF 'unicodetextlaw03.Utf8textPieces'. -/
def utf8textPiecesUptoCard : Claim7 := { stood := { row := utf8textPiecesUptoRow, standIns := [], harness := (true, "4445bc2dfb8aa2fcf535f9e286c1919c8fd977ce69db8d0c271b6be1d1756cf9"), looks := false }, kinds := [], alts := [], laidByText := true, laidKinds := [.data, .data], laidTests := true, laidLooks := .later }
def Utf8textPiecesUptoCardSaid : Prop := Claim7.holds Tryd.pinned (.plain (OpenSpec.upto utf8textPiecesSpec)) utf8textPiecesUptoCard

/-- THE SECOND FORM's CARD OF 'unicodetextlaw03.Utf8textOrders'. -/
def utf8textOrdersUptoCard : Claim7 := { stood := { row := utf8textOrdersUptoRow, standIns := [], harness := (true, "4445bc2dfb8aa2fcf535f9e286c1919c8fd977ce69db8d0c271b6be1d1756cf9"), looks := false }, kinds := [], alts := [], laidByText := true, laidKinds := [.data, .data], laidTests := true, laidLooks := .later }
def Utf8textOrdersUptoCardSaid : Prop := Claim7.holds Tryd.pinned (.plain (OpenSpec.upto utf8textOrdersSpec)) utf8textOrdersUptoCard
end Rows
end Go.Proofs.YtpckedihdmibmaaDoor
