/-
  NARROWER THAN 'FOR EVERY INPUT', by the rows' own cells (each row's printed sentence says how): Utf8textForms: laid · Utf8textEncodes: laid · Utf8textSteps: laid · Utf8textDecodes: laid · Utf8textBack: laid · Utf8textAgain: laid · Utf8textPieces: laid · Utf8textOrders: laid.
  DERIVED. THE GIVEN ROWS OF THIS SEAT. 8 by the template 'for every input the law returns true; each argument reads behind the call as it read before'; 0 by the template 'total and deterministic' (their statements: YtpckedihdmibmaaDoorTotals.lean).
  GIVEN WITH THE SEED: the statements are not yours to turn. If you find one false, say at which input.
  Laid BY PROGRAM, IN A SANDBOX (cutbox-rows.mjs): the forced cells as the released guide's own fill.sh prints them over the translation 24a9cfda8f44af50… (all of the seat's roots in one cut). By AI agents, Wed Nov 11 2026. No macro, syntax, notation, axiom, sorry.
-/
import Derived.Test.YtpckedihdmibmaaDoorChecked
import GoSem.Claim
import GoSem.ClaimJoined
import GoSem.ClaimMapViews
import Derived.JoinedTies
import Derived.KernelRfl
namespace Go.Proofs.YtpckedihdmibmaaDoor
/- THE CELL 'sum', in the pinned program and in every row, IS THE sha256 OF THE DUMP (.gsa) THAT YtpckedihdmibmaaDoorProg.lean LOADS. Nothing in Lean hashes anything: it is a label: what it is worth is what the hold of that sum in a sandbox is worth. -/
noncomputable def Tryd.pinned : Pinned := { name := "ytpckedihdmibmaadoor", sum := "24a9cfda8f44af50d1b856a941d2bd6aa077fa057066bbff1040c6b3fae4ed86", checked := Tryd.checked }
namespace Rows
def none {H : Type} : Left H := { results := [], args := [] }

/- WHAT THE LISTED PACKAGE-LEVEL VARIABLES READ AS WHEN THE CALL BEGINS. Each datum BY PROGRAM (the guide's laid-datum.mjs) off the statement by which the dump's own 'gosem.cut.vars' lays the variable. In a bare row this is a premise. The card (YtpckedihdmibmaaDoorCards.lean) ties it to the program's text. -/
def laid_unicodetext_codepoint_hexDigits {H : Type} : DataW H := .agg [.lit (.int .u8 48), .lit (.int .u8 49), .lit (.int .u8 50), .lit (.int .u8 51), .lit (.int .u8 52), .lit (.int .u8 53), .lit (.int .u8 54), .lit (.int .u8 55), .lit (.int .u8 56), .lit (.int .u8 57), .lit (.int .u8 65), .lit (.int .u8 66), .lit (.int .u8 67), .lit (.int .u8 68), .lit (.int .u8 69), .lit (.int .u8 70)]
def laid_unicodetext_utf8text_hexDigits {H : Type} : DataW H := .agg [.lit (.int .u8 48), .lit (.int .u8 49), .lit (.int .u8 50), .lit (.int .u8 51), .lit (.int .u8 52), .lit (.int .u8 53), .lit (.int .u8 54), .lit (.int .u8 55), .lit (.int .u8 56), .lit (.int .u8 57), .lit (.int .u8 65), .lit (.int .u8 66), .lit (.int .u8 67), .lit (.int .u8 68), .lit (.int .u8 69), .lit (.int .u8 70)]

/-- 'unicodetextlaw03.Utf8textForms': WHATEVER THE INPUT: true; the input reads as it did. -/
def utf8textFormsSpec : ChangeSpec := { name := "utf8textForms", fn := fun _ => fun
  | [d] => { results := [.lit (.bool true)], args := [d] }
  | _ => none }
def utf8textFormsRow : OpenClaim := { program := "ytpckedihdmibmaadoor", sum := "24a9cfda8f44af50d1b856a941d2bd6aa077fa057066bbff1040c6b3fae4ed86", func := "unicodetext/unicodetextlaw03.Utf8textForms", spec := "utf8textForms", named := ["unicodetext/codepoint.hexDigits", "unicodetext/utf8text.hexDigits"], apart := false, laid := [("unicodetext/codepoint.hexDigits", laid_unicodetext_codepoint_hexDigits), ("unicodetext/utf8text.hexDigits", laid_unicodetext_utf8text_hexDigits)] }
def Utf8textFormsSaid : Prop := utf8textFormsRow.holds Tryd.pinned (OpenSpec.ofChange utf8textFormsSpec)

/-- ITS FALSE NEIGHBOUR: 'it returns false'. Refute it at one input. -/
def utf8textFormsWrong : ChangeSpec := { name := "utf8textForms", fn := fun _ => fun
  | [d] => { results := [.lit (.bool false)], args := [d] }
  | _ => none }
def Utf8textFormsWrongFalsely : Prop := utf8textFormsRow.holds Tryd.pinned (OpenSpec.ofChange utf8textFormsWrong)

/-- 'unicodetextlaw03.Utf8textEncodes': WHATEVER THE INPUT: true; the input reads as it did. -/
def utf8textEncodesSpec : ChangeSpec := { name := "utf8textEncodes", fn := fun _ => fun
  | [d1, d2] => { results := [.lit (.bool true)], args := [d1, d2] }
  | _ => none }
def utf8textEncodesRow : OpenClaim := { program := "ytpckedihdmibmaadoor", sum := "24a9cfda8f44af50d1b856a941d2bd6aa077fa057066bbff1040c6b3fae4ed86", func := "unicodetext/unicodetextlaw03.Utf8textEncodes", spec := "utf8textEncodes", named := ["unicodetext/codepoint.hexDigits", "unicodetext/utf8text.hexDigits"], apart := false, laid := [("unicodetext/codepoint.hexDigits", laid_unicodetext_codepoint_hexDigits), ("unicodetext/utf8text.hexDigits", laid_unicodetext_utf8text_hexDigits)] }
def Utf8textEncodesSaid : Prop := utf8textEncodesRow.holds Tryd.pinned (OpenSpec.ofChange utf8textEncodesSpec)

/-- ITS FALSE NEIGHBOUR: 'it returns false'. Refute it at one input. -/
def utf8textEncodesWrong : ChangeSpec := { name := "utf8textEncodes", fn := fun _ => fun
  | [d1, d2] => { results := [.lit (.bool false)], args := [d1, d2] }
  | _ => none }
def Utf8textEncodesWrongFalsely : Prop := utf8textEncodesRow.holds Tryd.pinned (OpenSpec.ofChange utf8textEncodesWrong)

/-- 'unicodetextlaw03.Utf8textSteps': WHATEVER THE INPUT: true; the input reads as it did. -/
def utf8textStepsSpec : ChangeSpec := { name := "utf8textSteps", fn := fun _ => fun
  | [d] => { results := [.lit (.bool true)], args := [d] }
  | _ => none }
def utf8textStepsRow : OpenClaim := { program := "ytpckedihdmibmaadoor", sum := "24a9cfda8f44af50d1b856a941d2bd6aa077fa057066bbff1040c6b3fae4ed86", func := "unicodetext/unicodetextlaw03.Utf8textSteps", spec := "utf8textSteps", named := ["unicodetext/codepoint.hexDigits", "unicodetext/utf8text.hexDigits"], apart := false, laid := [("unicodetext/codepoint.hexDigits", laid_unicodetext_codepoint_hexDigits), ("unicodetext/utf8text.hexDigits", laid_unicodetext_utf8text_hexDigits)] }
def Utf8textStepsSaid : Prop := utf8textStepsRow.holds Tryd.pinned (OpenSpec.ofChange utf8textStepsSpec)

/-- ITS FALSE NEIGHBOUR: 'it returns false'. Refute it at one input. -/
def utf8textStepsWrong : ChangeSpec := { name := "utf8textSteps", fn := fun _ => fun
  | [d] => { results := [.lit (.bool false)], args := [d] }
  | _ => none }
def Utf8textStepsWrongFalsely : Prop := utf8textStepsRow.holds Tryd.pinned (OpenSpec.ofChange utf8textStepsWrong)

/-- 'unicodetextlaw03.Utf8textDecodes': WHATEVER THE INPUT: true; the input reads as it did. -/
def utf8textDecodesSpec : ChangeSpec := { name := "utf8textDecodes", fn := fun _ => fun
  | [d1, d2] => { results := [.lit (.bool true)], args := [d1, d2] }
  | _ => none }
def utf8textDecodesRow : OpenClaim := { program := "ytpckedihdmibmaadoor", sum := "24a9cfda8f44af50d1b856a941d2bd6aa077fa057066bbff1040c6b3fae4ed86", func := "unicodetext/unicodetextlaw03.Utf8textDecodes", spec := "utf8textDecodes", named := ["unicodetext/codepoint.hexDigits", "unicodetext/utf8text.hexDigits"], apart := false, laid := [("unicodetext/codepoint.hexDigits", laid_unicodetext_codepoint_hexDigits), ("unicodetext/utf8text.hexDigits", laid_unicodetext_utf8text_hexDigits)] }
def Utf8textDecodesSaid : Prop := utf8textDecodesRow.holds Tryd.pinned (OpenSpec.ofChange utf8textDecodesSpec)

/-- ITS FALSE NEIGHBOUR: 'it returns false'. Refute it at one input. -/
def utf8textDecodesWrong : ChangeSpec := { name := "utf8textDecodes", fn := fun _ => fun
  | [d1, d2] => { results := [.lit (.bool false)], args := [d1, d2] }
  | _ => none }
def Utf8textDecodesWrongFalsely : Prop := utf8textDecodesRow.holds Tryd.pinned (OpenSpec.ofChange utf8textDecodesWrong)

/-- 'unicodetextlaw03.Utf8textBack': WHATEVER THE INPUT: true; the input reads as it did. -/
def utf8textBackSpec : ChangeSpec := { name := "utf8textBack", fn := fun _ => fun
  | [d1, d2] => { results := [.lit (.bool true)], args := [d1, d2] }
  | _ => none }
def utf8textBackRow : OpenClaim := { program := "ytpckedihdmibmaadoor", sum := "24a9cfda8f44af50d1b856a941d2bd6aa077fa057066bbff1040c6b3fae4ed86", func := "unicodetext/unicodetextlaw03.Utf8textBack", spec := "utf8textBack", named := ["unicodetext/codepoint.hexDigits", "unicodetext/utf8text.hexDigits"], apart := false, laid := [("unicodetext/codepoint.hexDigits", laid_unicodetext_codepoint_hexDigits), ("unicodetext/utf8text.hexDigits", laid_unicodetext_utf8text_hexDigits)] }
def Utf8textBackSaid : Prop := utf8textBackRow.holds Tryd.pinned (OpenSpec.ofChange utf8textBackSpec)

/-- ITS FALSE NEIGHBOUR: 'it returns false'. Refute it at one input. -/
def utf8textBackWrong : ChangeSpec := { name := "utf8textBack", fn := fun _ => fun
  | [d1, d2] => { results := [.lit (.bool false)], args := [d1, d2] }
  | _ => none }
def Utf8textBackWrongFalsely : Prop := utf8textBackRow.holds Tryd.pinned (OpenSpec.ofChange utf8textBackWrong)

/-- 'unicodetextlaw03.Utf8textAgain': WHATEVER THE INPUT: true; the input reads as it did. -/
def utf8textAgainSpec : ChangeSpec := { name := "utf8textAgain", fn := fun _ => fun
  | [d1, d2] => { results := [.lit (.bool true)], args := [d1, d2] }
  | _ => none }
def utf8textAgainRow : OpenClaim := { program := "ytpckedihdmibmaadoor", sum := "24a9cfda8f44af50d1b856a941d2bd6aa077fa057066bbff1040c6b3fae4ed86", func := "unicodetext/unicodetextlaw03.Utf8textAgain", spec := "utf8textAgain", named := ["unicodetext/codepoint.hexDigits", "unicodetext/utf8text.hexDigits"], apart := false, laid := [("unicodetext/codepoint.hexDigits", laid_unicodetext_codepoint_hexDigits), ("unicodetext/utf8text.hexDigits", laid_unicodetext_utf8text_hexDigits)] }
def Utf8textAgainSaid : Prop := utf8textAgainRow.holds Tryd.pinned (OpenSpec.ofChange utf8textAgainSpec)

/-- ITS FALSE NEIGHBOUR: 'it returns false'. Refute it at one input. -/
def utf8textAgainWrong : ChangeSpec := { name := "utf8textAgain", fn := fun _ => fun
  | [d1, d2] => { results := [.lit (.bool false)], args := [d1, d2] }
  | _ => none }
def Utf8textAgainWrongFalsely : Prop := utf8textAgainRow.holds Tryd.pinned (OpenSpec.ofChange utf8textAgainWrong)

/-- 'unicodetextlaw03.Utf8textPieces': WHATEVER THE INPUT: true; the input reads as it did. -/
def utf8textPiecesSpec : ChangeSpec := { name := "utf8textPieces", fn := fun _ => fun
  | [d1, d2, d3] => { results := [.lit (.bool true)], args := [d1, d2, d3] }
  | _ => none }
def utf8textPiecesRow : OpenClaim := { program := "ytpckedihdmibmaadoor", sum := "24a9cfda8f44af50d1b856a941d2bd6aa077fa057066bbff1040c6b3fae4ed86", func := "unicodetext/unicodetextlaw03.Utf8textPieces", spec := "utf8textPieces", named := ["unicodetext/codepoint.hexDigits", "unicodetext/utf8text.hexDigits"], apart := false, laid := [("unicodetext/codepoint.hexDigits", laid_unicodetext_codepoint_hexDigits), ("unicodetext/utf8text.hexDigits", laid_unicodetext_utf8text_hexDigits)] }
def Utf8textPiecesSaid : Prop := utf8textPiecesRow.holds Tryd.pinned (OpenSpec.ofChange utf8textPiecesSpec)

/-- ITS FALSE NEIGHBOUR: 'it returns false'. Refute it at one input. -/
def utf8textPiecesWrong : ChangeSpec := { name := "utf8textPieces", fn := fun _ => fun
  | [d1, d2, d3] => { results := [.lit (.bool false)], args := [d1, d2, d3] }
  | _ => none }
def Utf8textPiecesWrongFalsely : Prop := utf8textPiecesRow.holds Tryd.pinned (OpenSpec.ofChange utf8textPiecesWrong)

/-- 'unicodetextlaw03.Utf8textOrders': WHATEVER THE INPUT: true; the input reads as it did. -/
def utf8textOrdersSpec : ChangeSpec := { name := "utf8textOrders", fn := fun _ => fun
  | [d1, d2] => { results := [.lit (.bool true)], args := [d1, d2] }
  | _ => none }
def utf8textOrdersRow : OpenClaim := { program := "ytpckedihdmibmaadoor", sum := "24a9cfda8f44af50d1b856a941d2bd6aa077fa057066bbff1040c6b3fae4ed86", func := "unicodetext/unicodetextlaw03.Utf8textOrders", spec := "utf8textOrders", named := ["unicodetext/codepoint.hexDigits", "unicodetext/utf8text.hexDigits"], apart := false, laid := [("unicodetext/codepoint.hexDigits", laid_unicodetext_codepoint_hexDigits), ("unicodetext/utf8text.hexDigits", laid_unicodetext_utf8text_hexDigits)] }
def Utf8textOrdersSaid : Prop := utf8textOrdersRow.holds Tryd.pinned (OpenSpec.ofChange utf8textOrdersSpec)

/-- ITS FALSE NEIGHBOUR: 'it returns false'. Refute it at one input. -/
def utf8textOrdersWrong : ChangeSpec := { name := "utf8textOrders", fn := fun _ => fun
  | [d1, d2] => { results := [.lit (.bool false)], args := [d1, d2] }
  | _ => none }
def Utf8textOrdersWrongFalsely : Prop := utf8textOrdersRow.holds Tryd.pinned (OpenSpec.ofChange utf8textOrdersWrong)

/- THE SECOND FORM. 'bulk': how many values and letters a reading holds, each counted each time it is reached (what is shared counts as often as it is met; a slice's spare places count too). A statement '..UptoSaid' is the law's where the arguments, and the package variables that the reading takes, are together of bulk at most 1048576: NARROWER than '..Said'. Prove '..Said' where nothing that the law and all that it calls make is longer than what came in: it says more and counts as full. Else prove '..UptoSaid'. A law counts once. -/
mutual
def uptoBulk {H : Type} : DataW H → Nat
  | .lit (.string bytes) => bytes.length + 1
  | .lit _ => 1
  | .nil => 1
  | .ptr d => uptoBulk d + 1
  | .slice elems spare => uptoBulkAll elems + uptoBulkAll spare + 1
  | .agg parts => uptoBulkAll parts + 1
  | .iface _ d => uptoBulk d + 1
  | .map entries => uptoBulkEntries entries + 1
  | .held _ => 1
def uptoBulkAll {H : Type} : List (DataW H) → Nat
  | [] => 0
  | d :: r => uptoBulk d + uptoBulkAll r
def uptoBulkEntries {H : Type} : List (Lit × DataW H) → Nat
  | [] => 0
  | x :: r => uptoBulkEntry x + uptoBulkEntries r
def uptoBulkEntry {H : Type} : Lit × DataW H → Nat
  | (.string bytes, d) => bytes.length + uptoBulk d + 1
  | (_, d) => uptoBulk d + 1
 end
def uptoSmall : (H : Type) → List (DataW H) → Bool := fun _ ds => decide (uptoBulkAll ds ≤ 1048576)
def OpenSpec.upto (s : _root_.Go.ChangeSpec) : _root_.Go.OpenSpec := { _root_.Go.OpenSpec.ofChange s with cond := some uptoSmall }

/-- 'unicodetextlaw03.Utf8textForms', WHERE WHAT IT READS IS OF BULK AT MOST 1048576: true; the input reads as it did. -/
def utf8textFormsUptoRow : OpenClaim := { program := "ytpckedihdmibmaadoor", sum := "24a9cfda8f44af50d1b856a941d2bd6aa077fa057066bbff1040c6b3fae4ed86", func := "unicodetext/unicodetextlaw03.Utf8textForms", spec := "utf8textForms", named := ["unicodetext/codepoint.hexDigits", "unicodetext/utf8text.hexDigits"], apart := false, laid := [("unicodetext/codepoint.hexDigits", laid_unicodetext_codepoint_hexDigits), ("unicodetext/utf8text.hexDigits", laid_unicodetext_utf8text_hexDigits)], narrowed := true }
def Utf8textFormsUptoSaid : Prop := utf8textFormsUptoRow.holds Tryd.pinned (OpenSpec.upto utf8textFormsSpec)

/-- 'unicodetextlaw03.Utf8textEncodes', WHERE WHAT IT READS IS OF BULK AT MOST 1048576: true; the input reads as it did. -/
def utf8textEncodesUptoRow : OpenClaim := { program := "ytpckedihdmibmaadoor", sum := "24a9cfda8f44af50d1b856a941d2bd6aa077fa057066bbff1040c6b3fae4ed86", func := "unicodetext/unicodetextlaw03.Utf8textEncodes", spec := "utf8textEncodes", named := ["unicodetext/codepoint.hexDigits", "unicodetext/utf8text.hexDigits"], apart := false, laid := [("unicodetext/codepoint.hexDigits", laid_unicodetext_codepoint_hexDigits), ("unicodetext/utf8text.hexDigits", laid_unicodetext_utf8text_hexDigits)], narrowed := true }
def Utf8textEncodesUptoSaid : Prop := utf8textEncodesUptoRow.holds Tryd.pinned (OpenSpec.upto utf8textEncodesSpec)

/-- 'unicodetextlaw03.Utf8textSteps', WHERE WHAT IT READS IS OF BULK AT MOST 1048576: true; the input reads as it did. -/
def utf8textStepsUptoRow : OpenClaim := { program := "ytpckedihdmibmaadoor", sum := "24a9cfda8f44af50d1b856a941d2bd6aa077fa057066bbff1040c6b3fae4ed86", func := "unicodetext/unicodetextlaw03.Utf8textSteps", spec := "utf8textSteps", named := ["unicodetext/codepoint.hexDigits", "unicodetext/utf8text.hexDigits"], apart := false, laid := [("unicodetext/codepoint.hexDigits", laid_unicodetext_codepoint_hexDigits), ("unicodetext/utf8text.hexDigits", laid_unicodetext_utf8text_hexDigits)], narrowed := true }
def Utf8textStepsUptoSaid : Prop := utf8textStepsUptoRow.holds Tryd.pinned (OpenSpec.upto utf8textStepsSpec)

/-- 'unicodetextlaw03.Utf8textDecodes', WHERE WHAT IT READS IS OF BULK AT MOST 1048576: true; the input reads as it did. -/
def utf8textDecodesUptoRow : OpenClaim := { program := "ytpckedihdmibmaadoor", sum := "24a9cfda8f44af50d1b856a941d2bd6aa077fa057066bbff1040c6b3fae4ed86", func := "unicodetext/unicodetextlaw03.Utf8textDecodes", spec := "utf8textDecodes", named := ["unicodetext/codepoint.hexDigits", "unicodetext/utf8text.hexDigits"], apart := false, laid := [("unicodetext/codepoint.hexDigits", laid_unicodetext_codepoint_hexDigits), ("unicodetext/utf8text.hexDigits", laid_unicodetext_utf8text_hexDigits)], narrowed := true }
def Utf8textDecodesUptoSaid : Prop := utf8textDecodesUptoRow.holds Tryd.pinned (OpenSpec.upto utf8textDecodesSpec)

/-- 'unicodetextlaw03.Utf8textBack', WHERE WHAT IT READS IS OF BULK AT MOST 1048576: true; the input reads as it did. -/
def utf8textBackUptoRow : OpenClaim := { program := "ytpckedihdmibmaadoor", sum := "24a9cfda8f44af50d1b856a941d2bd6aa077fa057066bbff1040c6b3fae4ed86", func := "unicodetext/unicodetextlaw03.Utf8textBack", spec := "utf8textBack", named := ["unicodetext/codepoint.hexDigits", "unicodetext/utf8text.hexDigits"], apart := false, laid := [("unicodetext/codepoint.hexDigits", laid_unicodetext_codepoint_hexDigits), ("unicodetext/utf8text.hexDigits", laid_unicodetext_utf8text_hexDigits)], narrowed := true }
def Utf8textBackUptoSaid : Prop := utf8textBackUptoRow.holds Tryd.pinned (OpenSpec.upto utf8textBackSpec)

/-- 'unicodetextlaw03.Utf8textAgain', WHERE WHAT IT READS IS OF BULK AT MOST 1048576: true; the input reads as it did. -/
def utf8textAgainUptoRow : OpenClaim := { program := "ytpckedihdmibmaadoor", sum := "24a9cfda8f44af50d1b856a941d2bd6aa077fa057066bbff1040c6b3fae4ed86", func := "unicodetext/unicodetextlaw03.Utf8textAgain", spec := "utf8textAgain", named := ["unicodetext/codepoint.hexDigits", "unicodetext/utf8text.hexDigits"], apart := false, laid := [("unicodetext/codepoint.hexDigits", laid_unicodetext_codepoint_hexDigits), ("unicodetext/utf8text.hexDigits", laid_unicodetext_utf8text_hexDigits)], narrowed := true }
def Utf8textAgainUptoSaid : Prop := utf8textAgainUptoRow.holds Tryd.pinned (OpenSpec.upto utf8textAgainSpec)

/-- 'unicodetextlaw03.Utf8textPieces', WHERE WHAT IT READS IS OF BULK AT MOST 1048576: true; the input reads as it did. -/
def utf8textPiecesUptoRow : OpenClaim := { program := "ytpckedihdmibmaadoor", sum := "24a9cfda8f44af50d1b856a941d2bd6aa077fa057066bbff1040c6b3fae4ed86", func := "unicodetext/unicodetextlaw03.Utf8textPieces", spec := "utf8textPieces", named := ["unicodetext/codepoint.hexDigits", "unicodetext/utf8text.hexDigits"], apart := false, laid := [("unicodetext/codepoint.hexDigits", laid_unicodetext_codepoint_hexDigits), ("unicodetext/utf8text.hexDigits", laid_unicodetext_utf8text_hexDigits)], narrowed := true }
def Utf8textPiecesUptoSaid : Prop := utf8textPiecesUptoRow.holds Tryd.pinned (OpenSpec.upto utf8textPiecesSpec)

/-- 'unicodetextlaw03.Utf8textOrders', WHERE WHAT IT READS IS OF BULK AT MOST 1048576: true; the input reads as it did. -/
def utf8textOrdersUptoRow : OpenClaim := { program := "ytpckedihdmibmaadoor", sum := "24a9cfda8f44af50d1b856a941d2bd6aa077fa057066bbff1040c6b3fae4ed86", func := "unicodetext/unicodetextlaw03.Utf8textOrders", spec := "utf8textOrders", named := ["unicodetext/codepoint.hexDigits", "unicodetext/utf8text.hexDigits"], apart := false, laid := [("unicodetext/codepoint.hexDigits", laid_unicodetext_codepoint_hexDigits), ("unicodetext/utf8text.hexDigits", laid_unicodetext_utf8text_hexDigits)], narrowed := true }
def Utf8textOrdersUptoSaid : Prop := utf8textOrdersUptoRow.holds Tryd.pinned (OpenSpec.upto utf8textOrdersSpec)

end Rows
end Go.Proofs.YtpckedihdmibmaaDoor
