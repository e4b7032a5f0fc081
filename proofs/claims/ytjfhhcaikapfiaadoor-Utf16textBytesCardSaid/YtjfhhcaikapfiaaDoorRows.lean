/-
  NARROWER THAN 'FOR EVERY INPUT', by the rows' own cells (each row's printed sentence says how): Utf16textEncodes: laid · Utf16textDecodes: laid · Utf16textBytes: laid · Utf16textReturns: laid · Utf16textMarks: laid · Utf16textPieces: laid · Utf16textWhole: laid.
  DERIVED. THE GIVEN ROWS OF THIS SEAT. 7 by the template 'for every input the law returns true; each argument reads behind the call as it read before'; 0 by the template 'total and deterministic' (their statements: YtjfhhcaikapfiaaDoorTotals.lean).
  GIVEN WITH THE SEED: the statements are not yours to turn. If you find one false, say at which input.
  Laid BY PROGRAM, IN A SANDBOX (cutbox-rows.mjs): the forced cells as the released guide's own fill.sh prints them over the translation 26373078bcff9186… (all of the seat's roots in one cut). By AI agents, Wed Nov 11 2026. No macro, syntax, notation, axiom, sorry.
-/
import Derived.Test.YtjfhhcaikapfiaaDoorChecked
import GoSem.Claim
import GoSem.ClaimJoined
import GoSem.ClaimMapViews
import Derived.JoinedTies
import Derived.KernelRfl
namespace Go.Proofs.YtjfhhcaikapfiaaDoor
/- THE CELL 'sum', in the pinned program and in every row, IS THE sha256 OF THE DUMP (.gsa) THAT YtjfhhcaikapfiaaDoorProg.lean LOADS. Nothing in Lean hashes anything: it is a label: what it is worth is what the hold of that sum in a sandbox is worth. -/
noncomputable def Tryd.pinned : Pinned := { name := "ytjfhhcaikapfiaadoor", sum := "26373078bcff9186fb3e1f7c5b7e545c49f69907142e7251754944f30578452e", checked := Tryd.checked }
namespace Rows
def none {H : Type} : Left H := { results := [], args := [] }

/- WHAT THE LISTED PACKAGE-LEVEL VARIABLES READ AS WHEN THE CALL BEGINS. Each datum BY PROGRAM (the guide's laid-datum.mjs) off the statement by which the dump's own 'gosem.cut.vars' lays the variable. In a bare row this is a premise. The card (YtjfhhcaikapfiaaDoorCards.lean) ties it to the program's text. -/
def laid_unicodetext_codepoint_hexDigits {H : Type} : DataW H := .agg [.lit (.int .u8 48), .lit (.int .u8 49), .lit (.int .u8 50), .lit (.int .u8 51), .lit (.int .u8 52), .lit (.int .u8 53), .lit (.int .u8 54), .lit (.int .u8 55), .lit (.int .u8 56), .lit (.int .u8 57), .lit (.int .u8 65), .lit (.int .u8 66), .lit (.int .u8 67), .lit (.int .u8 68), .lit (.int .u8 69), .lit (.int .u8 70)]

/-- 'unicodetextlaw04.Utf16textEncodes': WHATEVER THE INPUT: true; the input reads as it did. -/
def utf16textEncodesSpec : ChangeSpec := { name := "utf16textEncodes", fn := fun _ => fun
  | [d1, d2] => { results := [.lit (.bool true)], args := [d1, d2] }
  | _ => none }
def utf16textEncodesRow : OpenClaim := { program := "ytjfhhcaikapfiaadoor", sum := "26373078bcff9186fb3e1f7c5b7e545c49f69907142e7251754944f30578452e", func := "unicodetext/unicodetextlaw04.Utf16textEncodes", spec := "utf16textEncodes", named := ["unicodetext/codepoint.hexDigits"], apart := false, laid := [("unicodetext/codepoint.hexDigits", laid_unicodetext_codepoint_hexDigits)] }
def Utf16textEncodesSaid : Prop := utf16textEncodesRow.holds Tryd.pinned (OpenSpec.ofChange utf16textEncodesSpec)

/-- ITS FALSE NEIGHBOUR: 'it returns false'. Refute it at one input. -/
def utf16textEncodesWrong : ChangeSpec := { name := "utf16textEncodes", fn := fun _ => fun
  | [d1, d2] => { results := [.lit (.bool false)], args := [d1, d2] }
  | _ => none }
def Utf16textEncodesWrongFalsely : Prop := utf16textEncodesRow.holds Tryd.pinned (OpenSpec.ofChange utf16textEncodesWrong)

/-- 'unicodetextlaw04.Utf16textDecodes': WHATEVER THE INPUT: true; the input reads as it did. -/
def utf16textDecodesSpec : ChangeSpec := { name := "utf16textDecodes", fn := fun _ => fun
  | [d1, d2] => { results := [.lit (.bool true)], args := [d1, d2] }
  | _ => none }
def utf16textDecodesRow : OpenClaim := { program := "ytjfhhcaikapfiaadoor", sum := "26373078bcff9186fb3e1f7c5b7e545c49f69907142e7251754944f30578452e", func := "unicodetext/unicodetextlaw04.Utf16textDecodes", spec := "utf16textDecodes", named := ["unicodetext/codepoint.hexDigits"], apart := false, laid := [("unicodetext/codepoint.hexDigits", laid_unicodetext_codepoint_hexDigits)] }
def Utf16textDecodesSaid : Prop := utf16textDecodesRow.holds Tryd.pinned (OpenSpec.ofChange utf16textDecodesSpec)

/-- ITS FALSE NEIGHBOUR: 'it returns false'. Refute it at one input. -/
def utf16textDecodesWrong : ChangeSpec := { name := "utf16textDecodes", fn := fun _ => fun
  | [d1, d2] => { results := [.lit (.bool false)], args := [d1, d2] }
  | _ => none }
def Utf16textDecodesWrongFalsely : Prop := utf16textDecodesRow.holds Tryd.pinned (OpenSpec.ofChange utf16textDecodesWrong)

/-- 'unicodetextlaw04.Utf16textBytes': WHATEVER THE INPUT: true; the input reads as it did. -/
def utf16textBytesSpec : ChangeSpec := { name := "utf16textBytes", fn := fun _ => fun
  | [d1, d2, d3] => { results := [.lit (.bool true)], args := [d1, d2, d3] }
  | _ => none }
def utf16textBytesRow : OpenClaim := { program := "ytjfhhcaikapfiaadoor", sum := "26373078bcff9186fb3e1f7c5b7e545c49f69907142e7251754944f30578452e", func := "unicodetext/unicodetextlaw04.Utf16textBytes", spec := "utf16textBytes", named := ["unicodetext/codepoint.hexDigits"], apart := false, laid := [("unicodetext/codepoint.hexDigits", laid_unicodetext_codepoint_hexDigits)] }
def Utf16textBytesSaid : Prop := utf16textBytesRow.holds Tryd.pinned (OpenSpec.ofChange utf16textBytesSpec)

/-- ITS FALSE NEIGHBOUR: 'it returns false'. Refute it at one input. -/
def utf16textBytesWrong : ChangeSpec := { name := "utf16textBytes", fn := fun _ => fun
  | [d1, d2, d3] => { results := [.lit (.bool false)], args := [d1, d2, d3] }
  | _ => none }
def Utf16textBytesWrongFalsely : Prop := utf16textBytesRow.holds Tryd.pinned (OpenSpec.ofChange utf16textBytesWrong)

/-- 'unicodetextlaw04.Utf16textReturns': WHATEVER THE INPUT: true; the input reads as it did. -/
def utf16textReturnsSpec : ChangeSpec := { name := "utf16textReturns", fn := fun _ => fun
  | [d1, d2] => { results := [.lit (.bool true)], args := [d1, d2] }
  | _ => none }
def utf16textReturnsRow : OpenClaim := { program := "ytjfhhcaikapfiaadoor", sum := "26373078bcff9186fb3e1f7c5b7e545c49f69907142e7251754944f30578452e", func := "unicodetext/unicodetextlaw04.Utf16textReturns", spec := "utf16textReturns", named := ["unicodetext/codepoint.hexDigits"], apart := false, laid := [("unicodetext/codepoint.hexDigits", laid_unicodetext_codepoint_hexDigits)] }
def Utf16textReturnsSaid : Prop := utf16textReturnsRow.holds Tryd.pinned (OpenSpec.ofChange utf16textReturnsSpec)

/-- ITS FALSE NEIGHBOUR: 'it returns false'. Refute it at one input. -/
def utf16textReturnsWrong : ChangeSpec := { name := "utf16textReturns", fn := fun _ => fun
  | [d1, d2] => { results := [.lit (.bool false)], args := [d1, d2] }
  | _ => none }
def Utf16textReturnsWrongFalsely : Prop := utf16textReturnsRow.holds Tryd.pinned (OpenSpec.ofChange utf16textReturnsWrong)

/-- 'unicodetextlaw04.Utf16textMarks': WHATEVER THE INPUT: true; the input reads as it did. -/
def utf16textMarksSpec : ChangeSpec := { name := "utf16textMarks", fn := fun _ => fun
  | [d1, d2, d3] => { results := [.lit (.bool true)], args := [d1, d2, d3] }
  | _ => none }
def utf16textMarksRow : OpenClaim := { program := "ytjfhhcaikapfiaadoor", sum := "26373078bcff9186fb3e1f7c5b7e545c49f69907142e7251754944f30578452e", func := "unicodetext/unicodetextlaw04.Utf16textMarks", spec := "utf16textMarks", named := ["unicodetext/codepoint.hexDigits"], apart := false, laid := [("unicodetext/codepoint.hexDigits", laid_unicodetext_codepoint_hexDigits)] }
def Utf16textMarksSaid : Prop := utf16textMarksRow.holds Tryd.pinned (OpenSpec.ofChange utf16textMarksSpec)

/-- ITS FALSE NEIGHBOUR: 'it returns false'. Refute it at one input. -/
def utf16textMarksWrong : ChangeSpec := { name := "utf16textMarks", fn := fun _ => fun
  | [d1, d2, d3] => { results := [.lit (.bool false)], args := [d1, d2, d3] }
  | _ => none }
def Utf16textMarksWrongFalsely : Prop := utf16textMarksRow.holds Tryd.pinned (OpenSpec.ofChange utf16textMarksWrong)

/-- 'unicodetextlaw04.Utf16textPieces': WHATEVER THE INPUT: true; the input reads as it did. -/
def utf16textPiecesSpec : ChangeSpec := { name := "utf16textPieces", fn := fun _ => fun
  | [d1, d2, d3] => { results := [.lit (.bool true)], args := [d1, d2, d3] }
  | _ => none }
def utf16textPiecesRow : OpenClaim := { program := "ytjfhhcaikapfiaadoor", sum := "26373078bcff9186fb3e1f7c5b7e545c49f69907142e7251754944f30578452e", func := "unicodetext/unicodetextlaw04.Utf16textPieces", spec := "utf16textPieces", named := ["unicodetext/codepoint.hexDigits"], apart := false, laid := [("unicodetext/codepoint.hexDigits", laid_unicodetext_codepoint_hexDigits)] }
def Utf16textPiecesSaid : Prop := utf16textPiecesRow.holds Tryd.pinned (OpenSpec.ofChange utf16textPiecesSpec)

/-- ITS FALSE NEIGHBOUR: 'it returns false'. Refute it at one input. -/
def utf16textPiecesWrong : ChangeSpec := { name := "utf16textPieces", fn := fun _ => fun
  | [d1, d2, d3] => { results := [.lit (.bool false)], args := [d1, d2, d3] }
  | _ => none }
def Utf16textPiecesWrongFalsely : Prop := utf16textPiecesRow.holds Tryd.pinned (OpenSpec.ofChange utf16textPiecesWrong)

/-- 'unicodetextlaw04.Utf16textWhole': WHATEVER THE INPUT: true; the input reads as it did. -/
def utf16textWholeSpec : ChangeSpec := { name := "utf16textWhole", fn := fun _ => fun
  | [d] => { results := [.lit (.bool true)], args := [d] }
  | _ => none }
def utf16textWholeRow : OpenClaim := { program := "ytjfhhcaikapfiaadoor", sum := "26373078bcff9186fb3e1f7c5b7e545c49f69907142e7251754944f30578452e", func := "unicodetext/unicodetextlaw04.Utf16textWhole", spec := "utf16textWhole", named := ["unicodetext/codepoint.hexDigits"], apart := false, laid := [("unicodetext/codepoint.hexDigits", laid_unicodetext_codepoint_hexDigits)] }
def Utf16textWholeSaid : Prop := utf16textWholeRow.holds Tryd.pinned (OpenSpec.ofChange utf16textWholeSpec)

/-- ITS FALSE NEIGHBOUR: 'it returns false'. Refute it at one input. -/
def utf16textWholeWrong : ChangeSpec := { name := "utf16textWhole", fn := fun _ => fun
  | [d] => { results := [.lit (.bool false)], args := [d] }
  | _ => none }
def Utf16textWholeWrongFalsely : Prop := utf16textWholeRow.holds Tryd.pinned (OpenSpec.ofChange utf16textWholeWrong)

/- THE SECOND FORM. 'bulk': how many values and letters a reading holds, each counted each time it is reached (what is shared counts as often as it is met; a slice's spare places count too). A statement '..UptoSaid' is the law's where the arguments, and the package variables that the reading takes, are together of bulk at most 1048576: NARROWER than '..Said'. Prove '..Said' where nothing that the law and all that it calls make is longer than what came in: it says more and counts as full. Else prove '..UptoSaid'. A law counts once. -/
mutual
def uptoBulk {H : Type} : DataW H → Nat
  | .lit (.string bytes) => bytes.length + 1
  | .lit _ => 1
  | .nil => 1
  | .ptr d => uptoBulk d + 1
  | .slice elems spare => uptoBulkAll elems + uptoBulkAll spare + 1
  | .agg parts => uptoBulkAll parts + 1
  | .iface _ d => uptoBulk d + 1
  | .map entries => uptoBulkEntries entries + 1
  | .held _ => 1
def uptoBulkAll {H : Type} : List (DataW H) → Nat
  | [] => 0
  | d :: r => uptoBulk d + uptoBulkAll r
def uptoBulkEntries {H : Type} : List (Lit × DataW H) → Nat
  | [] => 0
  | x :: r => uptoBulkEntry x + uptoBulkEntries r
def uptoBulkEntry {H : Type} : Lit × DataW H → Nat
  | (.string bytes, d) => bytes.length + uptoBulk d + 1
  | (_, d) => uptoBulk d + 1
 end
def uptoSmall : (H : Type) → List (DataW H) → Bool := fun _ ds => decide (uptoBulkAll ds ≤ 1048576)
def OpenSpec.upto (s : _root_.Go.ChangeSpec) : _root_.Go.OpenSpec := { _root_.Go.OpenSpec.ofChange s with cond := some uptoSmall }

/-- 'unicodetextlaw04.Utf16textEncodes', WHERE WHAT IT READS IS OF BULK AT MOST 1048576: true; the input reads as it did. -/
def utf16textEncodesUptoRow : OpenClaim := { program := "ytjfhhcaikapfiaadoor", sum := "26373078bcff9186fb3e1f7c5b7e545c49f69907142e7251754944f30578452e", func := "unicodetext/unicodetextlaw04.Utf16textEncodes", spec := "utf16textEncodes", named := ["unicodetext/codepoint.hexDigits"], apart := false, laid := [("unicodetext/codepoint.hexDigits", laid_unicodetext_codepoint_hexDigits)], narrowed := true }
def Utf16textEncodesUptoSaid : Prop := utf16textEncodesUptoRow.holds Tryd.pinned (OpenSpec.upto utf16textEncodesSpec)

/-- 'unicodetextlaw04.Utf16textDecodes', WHERE WHAT IT READS IS OF BULK AT MOST 1048576: true; the input reads as it did. -/
def utf16textDecodesUptoRow : OpenClaim := { program := "ytjfhhcaikapfiaadoor", sum := "26373078bcff9186fb3e1f7c5b7e545c49f69907142e7251754944f30578452e", func := "unicodetext/unicodetextlaw04.Utf16textDecodes", spec := "utf16textDecodes", named := ["unicodetext/codepoint.hexDigits"], apart := false, laid := [("unicodetext/codepoint.hexDigits", laid_unicodetext_codepoint_hexDigits)], narrowed := true }
def Utf16textDecodesUptoSaid : Prop := utf16textDecodesUptoRow.holds Tryd.pinned (OpenSpec.upto utf16textDecodesSpec)

/-- 'unicodetextlaw04.Utf16textBytes', WHERE WHAT IT READS IS OF BULK AT MOST 1048576: true; the input reads as it did. -/
def utf16textBytesUptoRow : OpenClaim := { program := "ytjfhhcaikapfiaadoor", sum := "26373078bcff9186fb3e1f7c5b7e545c49f69907142e7251754944f30578452e", func := "unicodetext/unicodetextlaw04.Utf16textBytes", spec := "utf16textBytes", named := ["unicodetext/codepoint.hexDigits"], apart := false, laid := [("unicodetext/codepoint.hexDigits", laid_unicodetext_codepoint_hexDigits)], narrowed := true }
def Utf16textBytesUptoSaid : Prop := utf16textBytesUptoRow.holds Tryd.pinned (OpenSpec.upto utf16textBytesSpec)

/-- 'unicodetextlaw04.Utf16textReturns', WHERE WHAT IT READS IS OF BULK AT MOST 1048576: true; the input reads as it did. -/
def utf16textReturnsUptoRow : OpenClaim := { program := "ytjfhhcaikapfiaadoor", sum := "26373078bcff9186fb3e1f7c5b7e545c49f69907142e7251754944f30578452e", func := "unicodetext/unicodetextlaw04.Utf16textReturns", spec := "utf16textReturns", named := ["unicodetext/codepoint.hexDigits"], apart := false, laid := [("unicodetext/codepoint.hexDigits", laid_unicodetext_codepoint_hexDigits)], narrowed := true }
def Utf16textReturnsUptoSaid : Prop := utf16textReturnsUptoRow.holds Tryd.pinned (OpenSpec.upto utf16textReturnsSpec)

/-- 'unicodetextlaw04.Utf16textMarks', WHERE WHAT IT READS IS OF BULK AT MOST 1048576: true; the input reads as it did. -/
def utf16textMarksUptoRow : OpenClaim := { program := "ytjfhhcaikapfiaadoor", sum := "26373078bcff9186fb3e1f7c5b7e545c49f69907142e7251754944f30578452e", func := "unicodetext/unicodetextlaw04.Utf16textMarks", spec := "utf16textMarks", named := ["unicodetext/codepoint.hexDigits"], apart := false, laid := [("unicodetext/codepoint.hexDigits", laid_unicodetext_codepoint_hexDigits)], narrowed := true }
def Utf16textMarksUptoSaid : Prop := utf16textMarksUptoRow.holds Tryd.pinned (OpenSpec.upto utf16textMarksSpec)

/-- 'unicodetextlaw04.Utf16textPieces', WHERE WHAT IT READS IS OF BULK AT MOST 1048576: true; the input reads as it did. -/
def utf16textPiecesUptoRow : OpenClaim := { program := "ytjfhhcaikapfiaadoor", sum := "26373078bcff9186fb3e1f7c5b7e545c49f69907142e7251754944f30578452e", func := "unicodetext/unicodetextlaw04.Utf16textPieces", spec := "utf16textPieces", named := ["unicodetext/codepoint.hexDigits"], apart := false, laid := [("unicodetext/codepoint.hexDigits", laid_unicodetext_codepoint_hexDigits)], narrowed := true }
def Utf16textPiecesUptoSaid : Prop := utf16textPiecesUptoRow.holds Tryd.pinned (OpenSpec.upto utf16textPiecesSpec)

/-- 'unicodetextlaw04.Utf16textWhole', WHERE WHAT IT READS IS OF BULK AT MOST 1048576: true; the input reads as it did. -/
def utf16textWholeUptoRow : OpenClaim := { program := "ytjfhhcaikapfiaadoor", sum := "26373078bcff9186fb3e1f7c5b7e545c49f69907142e7251754944f30578452e", func := "unicodetext/unicodetextlaw04.Utf16textWhole", spec := "utf16textWhole", named := ["unicodetext/codepoint.hexDigits"], apart := false, laid := [("unicodetext/codepoint.hexDigits", laid_unicodetext_codepoint_hexDigits)], narrowed := true }
def Utf16textWholeUptoSaid : Prop := utf16textWholeUptoRow.holds Tryd.pinned (OpenSpec.upto utf16textWholeSpec)

end Rows
end Go.Proofs.YtjfhhcaikapfiaaDoor
