/-
  NARROWER THAN 'FOR EVERY INPUT', by the rows' own cells (each row's printed sentence says how): EscapeTexts: laid · EscapeCodes: laid · EscapeReads: laid · EscapeBack: laid · EscapeAgain: laid · EscapeAscii: laid · EscapeJoins: laid · EscapeForms: laid · EscapePlaces: laid.
  DERIVED. THE GIVEN ROWS OF THIS SEAT. 9 by the template 'for every input the law returns true; each argument reads behind the call as it read before'; 0 by the template 'total and deterministic' (their statements: YtkfchcmbpgcncaaDoorTotals.lean).
  GIVEN WITH THE SEED: the statements are not yours to turn. If you find one false, say at which input.
  Laid BY PROGRAM, IN A SANDBOX (cutbox-rows.mjs): the forced cells as the released guide's own fill.sh prints them over the translation 9076c7382c3fdd70… (all of the seat's roots in one cut). By AI agents, Wed Nov 11 2026. No macro, syntax, notation, axiom, sorry.
-/
import Derived.Test.YtkfchcmbpgcncaaDoorChecked
import GoSem.PinnedTables
import GoSem.Claim
import GoSem.ClaimJoined
import GoSem.ClaimMapViews
import Derived.JoinedTies
import Derived.KernelRfl
namespace Go.Proofs.YtkfchcmbpgcncaaDoor
/- THE CELL 'sum', in the pinned program and in every row, IS THE sha256 OF THE DUMP (.gsa) THAT YtkfchcmbpgcncaaDoorProg.lean LOADS. Nothing in Lean hashes anything: it is a label: what it is worth is what the hold of that sum in a sandbox is worth. -/
noncomputable def Tryd.pinned : Pinned := { name := "ytkfchcmbpgcncaadoor", sum := "9076c7382c3fdd703dfb79e2ae3434f248a6c7237d81900cea544facb5694109", checked := Tryd.checked }
namespace Rows
def none {H : Type} : Left H := { results := [], args := [] }

/- WHAT THE LISTED PACKAGE-LEVEL VARIABLES READ AS WHEN THE CALL BEGINS. Each datum BY PROGRAM (the guide's laid-datum.mjs) off the statement by which the dump's own 'gosem.cut.vars' lays the variable. In a bare row this is a premise. The card (YtkfchcmbpgcncaaDoorCards.lean) ties it to the program's text. -/
def laid_unicode_utf8_acceptRanges {H : Type} : DataW H := .agg [.agg [.lit (.int .u8 128), .lit (.int .u8 191)], .agg [.lit (.int .u8 160), .lit (.int .u8 191)], .agg [.lit (.int .u8 128), .lit (.int .u8 159)], .agg [.lit (.int .u8 144), .lit (.int .u8 191)], .agg [.lit (.int .u8 128), .lit (.int .u8 143)], .agg [.lit (.int .u8 0), .lit (.int .u8 0)], .agg [.lit (.int .u8 0), .lit (.int .u8 0)], .agg [.lit (.int .u8 0), .lit (.int .u8 0)], .agg [.lit (.int .u8 0), .lit (.int .u8 0)], .agg [.lit (.int .u8 0), .lit (.int .u8 0)], .agg [.lit (.int .u8 0), .lit (.int .u8 0)], .agg [.lit (.int .u8 0), .lit (.int .u8 0)], .agg [.lit (.int .u8 0), .lit (.int .u8 0)], .agg [.lit (.int .u8 0), .lit (.int .u8 0)], .agg [.lit (.int .u8 0), .lit (.int .u8 0)], .agg [.lit (.int .u8 0), .lit (.int .u8 0)]]
def laid_unicodetext_codepoint_hexDigits {H : Type} : DataW H := .agg [.lit (.int .u8 48), .lit (.int .u8 49), .lit (.int .u8 50), .lit (.int .u8 51), .lit (.int .u8 52), .lit (.int .u8 53), .lit (.int .u8 54), .lit (.int .u8 55), .lit (.int .u8 56), .lit (.int .u8 57), .lit (.int .u8 65), .lit (.int .u8 66), .lit (.int .u8 67), .lit (.int .u8 68), .lit (.int .u8 69), .lit (.int .u8 70)]
/-- One of Go's own tables, pinned by name: the form's constant. -/
def laid_unicode_utf8_first : DataW Unit := Go.Pinned.utf8First

/-- 'unicodetextlaw05.EscapeTexts': WHATEVER THE INPUT: true; the input reads as it did. -/
def escapeTextsSpec : ChangeSpec := { name := "escapeTexts", fn := fun _ => fun
  | [d] => { results := [.lit (.bool true)], args := [d] }
  | _ => none }
def escapeTextsRow : OpenClaim := { program := "ytkfchcmbpgcncaadoor", sum := "9076c7382c3fdd703dfb79e2ae3434f248a6c7237d81900cea544facb5694109", func := "unicodetext/unicodetextlaw05.EscapeTexts", spec := "escapeTexts", inPlace := ["internal/bytealg.IndexByteString", "internal/bytealg.IndexString", "internal/abi.NoEscape", "internal/bytealg.CountString"], unfollowed := true, recurses := true, named := ["unicodetext/codepoint.hexDigits", "unicode/utf8.first", "unicode/utf8.acceptRanges", "internal/bytealg.MaxLen"], apart := false, laid := [("unicode/utf8.acceptRanges", laid_unicode_utf8_acceptRanges), ("unicodetext/codepoint.hexDigits", laid_unicodetext_codepoint_hexDigits), ("unicode/utf8.first", laid_unicode_utf8_first)] }
def EscapeTextsSaid : Prop := escapeTextsRow.holds Tryd.pinned (OpenSpec.ofChange escapeTextsSpec)

/-- ITS FALSE NEIGHBOUR: 'it returns false'. Refute it at one input. -/
def escapeTextsWrong : ChangeSpec := { name := "escapeTexts", fn := fun _ => fun
  | [d] => { results := [.lit (.bool false)], args := [d] }
  | _ => none }
def EscapeTextsWrongFalsely : Prop := escapeTextsRow.holds Tryd.pinned (OpenSpec.ofChange escapeTextsWrong)

/-- 'unicodetextlaw05.EscapeCodes': WHATEVER THE INPUT: true; the input reads as it did. -/
def escapeCodesSpec : ChangeSpec := { name := "escapeCodes", fn := fun _ => fun
  | [d] => { results := [.lit (.bool true)], args := [d] }
  | _ => none }
def escapeCodesRow : OpenClaim := { program := "ytkfchcmbpgcncaadoor", sum := "9076c7382c3fdd703dfb79e2ae3434f248a6c7237d81900cea544facb5694109", func := "unicodetext/unicodetextlaw05.EscapeCodes", spec := "escapeCodes", inPlace := ["internal/bytealg.IndexByteString", "internal/bytealg.IndexString", "internal/abi.NoEscape", "internal/bytealg.CountString"], unfollowed := true, recurses := true, named := ["unicodetext/codepoint.hexDigits", "unicode/utf8.first", "unicode/utf8.acceptRanges", "internal/bytealg.MaxLen"], apart := false, laid := [("unicode/utf8.acceptRanges", laid_unicode_utf8_acceptRanges), ("unicodetext/codepoint.hexDigits", laid_unicodetext_codepoint_hexDigits), ("unicode/utf8.first", laid_unicode_utf8_first)] }
def EscapeCodesSaid : Prop := escapeCodesRow.holds Tryd.pinned (OpenSpec.ofChange escapeCodesSpec)

/-- ITS FALSE NEIGHBOUR: 'it returns false'. Refute it at one input. -/
def escapeCodesWrong : ChangeSpec := { name := "escapeCodes", fn := fun _ => fun
  | [d] => { results := [.lit (.bool false)], args := [d] }
  | _ => none }
def EscapeCodesWrongFalsely : Prop := escapeCodesRow.holds Tryd.pinned (OpenSpec.ofChange escapeCodesWrong)

/-- 'unicodetextlaw05.EscapeReads': WHATEVER THE INPUT: true; the input reads as it did. -/
def escapeReadsSpec : ChangeSpec := { name := "escapeReads", fn := fun _ => fun
  | [d] => { results := [.lit (.bool true)], args := [d] }
  | _ => none }
def escapeReadsRow : OpenClaim := { program := "ytkfchcmbpgcncaadoor", sum := "9076c7382c3fdd703dfb79e2ae3434f248a6c7237d81900cea544facb5694109", func := "unicodetext/unicodetextlaw05.EscapeReads", spec := "escapeReads", inPlace := ["internal/bytealg.IndexByteString", "internal/bytealg.IndexString", "internal/abi.NoEscape", "internal/bytealg.CountString"], unfollowed := true, recurses := true, named := ["unicodetext/codepoint.hexDigits", "unicode/utf8.first", "unicode/utf8.acceptRanges", "internal/bytealg.MaxLen"], apart := false, laid := [("unicode/utf8.acceptRanges", laid_unicode_utf8_acceptRanges), ("unicodetext/codepoint.hexDigits", laid_unicodetext_codepoint_hexDigits), ("unicode/utf8.first", laid_unicode_utf8_first)] }
def EscapeReadsSaid : Prop := escapeReadsRow.holds Tryd.pinned (OpenSpec.ofChange escapeReadsSpec)

/-- ITS FALSE NEIGHBOUR: 'it returns false'. Refute it at one input. -/
def escapeReadsWrong : ChangeSpec := { name := "escapeReads", fn := fun _ => fun
  | [d] => { results := [.lit (.bool false)], args := [d] }
  | _ => none }
def EscapeReadsWrongFalsely : Prop := escapeReadsRow.holds Tryd.pinned (OpenSpec.ofChange escapeReadsWrong)

/-- 'unicodetextlaw05.EscapeBack': WHATEVER THE INPUT: true; the input reads as it did. -/
def escapeBackSpec : ChangeSpec := { name := "escapeBack", fn := fun _ => fun
  | [d] => { results := [.lit (.bool true)], args := [d] }
  | _ => none }
def escapeBackRow : OpenClaim := { program := "ytkfchcmbpgcncaadoor", sum := "9076c7382c3fdd703dfb79e2ae3434f248a6c7237d81900cea544facb5694109", func := "unicodetext/unicodetextlaw05.EscapeBack", spec := "escapeBack", inPlace := ["internal/bytealg.IndexByteString", "internal/bytealg.IndexString", "internal/abi.NoEscape", "internal/bytealg.CountString"], unfollowed := true, recurses := true, named := ["unicodetext/codepoint.hexDigits", "unicode/utf8.first", "unicode/utf8.acceptRanges", "internal/bytealg.MaxLen"], apart := false, laid := [("unicode/utf8.acceptRanges", laid_unicode_utf8_acceptRanges), ("unicodetext/codepoint.hexDigits", laid_unicodetext_codepoint_hexDigits), ("unicode/utf8.first", laid_unicode_utf8_first)] }
def EscapeBackSaid : Prop := escapeBackRow.holds Tryd.pinned (OpenSpec.ofChange escapeBackSpec)

/-- ITS FALSE NEIGHBOUR: 'it returns false'. Refute it at one input. -/
def escapeBackWrong : ChangeSpec := { name := "escapeBack", fn := fun _ => fun
  | [d] => { results := [.lit (.bool false)], args := [d] }
  | _ => none }
def EscapeBackWrongFalsely : Prop := escapeBackRow.holds Tryd.pinned (OpenSpec.ofChange escapeBackWrong)

/-- 'unicodetextlaw05.EscapeAgain': WHATEVER THE INPUT: true; the input reads as it did. -/
def escapeAgainSpec : ChangeSpec := { name := "escapeAgain", fn := fun _ => fun
  | [d1, d2] => { results := [.lit (.bool true)], args := [d1, d2] }
  | _ => none }
def escapeAgainRow : OpenClaim := { program := "ytkfchcmbpgcncaadoor", sum := "9076c7382c3fdd703dfb79e2ae3434f248a6c7237d81900cea544facb5694109", func := "unicodetext/unicodetextlaw05.EscapeAgain", spec := "escapeAgain", inPlace := ["internal/bytealg.IndexByteString", "internal/bytealg.IndexString", "internal/abi.NoEscape", "internal/bytealg.CountString"], unfollowed := true, recurses := true, named := ["unicodetext/codepoint.hexDigits", "unicode/utf8.first", "unicode/utf8.acceptRanges", "internal/bytealg.MaxLen"], apart := false, laid := [("unicode/utf8.acceptRanges", laid_unicode_utf8_acceptRanges), ("unicodetext/codepoint.hexDigits", laid_unicodetext_codepoint_hexDigits), ("unicode/utf8.first", laid_unicode_utf8_first)] }
def EscapeAgainSaid : Prop := escapeAgainRow.holds Tryd.pinned (OpenSpec.ofChange escapeAgainSpec)

/-- ITS FALSE NEIGHBOUR: 'it returns false'. Refute it at one input. -/
def escapeAgainWrong : ChangeSpec := { name := "escapeAgain", fn := fun _ => fun
  | [d1, d2] => { results := [.lit (.bool false)], args := [d1, d2] }
  | _ => none }
def EscapeAgainWrongFalsely : Prop := escapeAgainRow.holds Tryd.pinned (OpenSpec.ofChange escapeAgainWrong)

/-- 'unicodetextlaw05.EscapeAscii': WHATEVER THE INPUT: true; the input reads as it did. -/
def escapeAsciiSpec : ChangeSpec := { name := "escapeAscii", fn := fun _ => fun
  | [d] => { results := [.lit (.bool true)], args := [d] }
  | _ => none }
def escapeAsciiRow : OpenClaim := { program := "ytkfchcmbpgcncaadoor", sum := "9076c7382c3fdd703dfb79e2ae3434f248a6c7237d81900cea544facb5694109", func := "unicodetext/unicodetextlaw05.EscapeAscii", spec := "escapeAscii", inPlace := ["internal/bytealg.IndexByteString", "internal/bytealg.IndexString", "internal/abi.NoEscape", "internal/bytealg.CountString"], unfollowed := true, recurses := true, named := ["unicodetext/codepoint.hexDigits", "unicode/utf8.first", "unicode/utf8.acceptRanges", "internal/bytealg.MaxLen"], apart := false, laid := [("unicode/utf8.acceptRanges", laid_unicode_utf8_acceptRanges), ("unicodetext/codepoint.hexDigits", laid_unicodetext_codepoint_hexDigits), ("unicode/utf8.first", laid_unicode_utf8_first)] }
def EscapeAsciiSaid : Prop := escapeAsciiRow.holds Tryd.pinned (OpenSpec.ofChange escapeAsciiSpec)

/-- ITS FALSE NEIGHBOUR: 'it returns false'. Refute it at one input. -/
def escapeAsciiWrong : ChangeSpec := { name := "escapeAscii", fn := fun _ => fun
  | [d] => { results := [.lit (.bool false)], args := [d] }
  | _ => none }
def EscapeAsciiWrongFalsely : Prop := escapeAsciiRow.holds Tryd.pinned (OpenSpec.ofChange escapeAsciiWrong)

/-- 'unicodetextlaw05.EscapeJoins': WHATEVER THE INPUT: true; the input reads as it did. -/
def escapeJoinsSpec : ChangeSpec := { name := "escapeJoins", fn := fun _ => fun
  | [d1, d2] => { results := [.lit (.bool true)], args := [d1, d2] }
  | _ => none }
def escapeJoinsRow : OpenClaim := { program := "ytkfchcmbpgcncaadoor", sum := "9076c7382c3fdd703dfb79e2ae3434f248a6c7237d81900cea544facb5694109", func := "unicodetext/unicodetextlaw05.EscapeJoins", spec := "escapeJoins", inPlace := ["internal/bytealg.IndexByteString", "internal/bytealg.IndexString", "internal/abi.NoEscape", "internal/bytealg.CountString"], unfollowed := true, recurses := true, named := ["unicodetext/codepoint.hexDigits", "unicode/utf8.first", "unicode/utf8.acceptRanges", "internal/bytealg.MaxLen"], apart := false, laid := [("unicode/utf8.acceptRanges", laid_unicode_utf8_acceptRanges), ("unicodetext/codepoint.hexDigits", laid_unicodetext_codepoint_hexDigits), ("unicode/utf8.first", laid_unicode_utf8_first)] }
def EscapeJoinsSaid : Prop := escapeJoinsRow.holds Tryd.pinned (OpenSpec.ofChange escapeJoinsSpec)

/-- ITS FALSE NEIGHBOUR: 'it returns false'. Refute it at one input. -/
def escapeJoinsWrong : ChangeSpec := { name := "escapeJoins", fn := fun _ => fun
  | [d1, d2] => { results := [.lit (.bool false)], args := [d1, d2] }
  | _ => none }
def EscapeJoinsWrongFalsely : Prop := escapeJoinsRow.holds Tryd.pinned (OpenSpec.ofChange escapeJoinsWrong)

/-- 'unicodetextlaw05.EscapeForms': WHATEVER THE INPUT: true; the input reads as it did. -/
def escapeFormsSpec : ChangeSpec := { name := "escapeForms", fn := fun _ => fun
  | [d1, d2, d3] => { results := [.lit (.bool true)], args := [d1, d2, d3] }
  | _ => none }
def escapeFormsRow : OpenClaim := { program := "ytkfchcmbpgcncaadoor", sum := "9076c7382c3fdd703dfb79e2ae3434f248a6c7237d81900cea544facb5694109", func := "unicodetext/unicodetextlaw05.EscapeForms", spec := "escapeForms", inPlace := ["internal/bytealg.IndexByteString", "internal/bytealg.IndexString", "internal/abi.NoEscape", "internal/bytealg.CountString"], unfollowed := true, recurses := true, named := ["unicodetext/codepoint.hexDigits", "unicode/utf8.first", "unicode/utf8.acceptRanges", "internal/bytealg.MaxLen"], apart := false, laid := [("unicode/utf8.acceptRanges", laid_unicode_utf8_acceptRanges), ("unicodetext/codepoint.hexDigits", laid_unicodetext_codepoint_hexDigits), ("unicode/utf8.first", laid_unicode_utf8_first)] }
def EscapeFormsSaid : Prop := escapeFormsRow.holds Tryd.pinned (OpenSpec.ofChange escapeFormsSpec)

/-- ITS FALSE NEIGHBOUR: 'it returns false'. Refute it at one input. -/
def escapeFormsWrong : ChangeSpec := { name := "escapeForms", fn := fun _ => fun
  | [d1, d2, d3] => { results := [.lit (.bool false)], args := [d1, d2, d3] }
  | _ => none }
def EscapeFormsWrongFalsely : Prop := escapeFormsRow.holds Tryd.pinned (OpenSpec.ofChange escapeFormsWrong)

/-- 'unicodetextlaw05.EscapePlaces': WHATEVER THE INPUT: true; the input reads as it did. -/
def escapePlacesSpec : ChangeSpec := { name := "escapePlaces", fn := fun _ => fun
  | [d] => { results := [.lit (.bool true)], args := [d] }
  | _ => none }
def escapePlacesRow : OpenClaim := { program := "ytkfchcmbpgcncaadoor", sum := "9076c7382c3fdd703dfb79e2ae3434f248a6c7237d81900cea544facb5694109", func := "unicodetext/unicodetextlaw05.EscapePlaces", spec := "escapePlaces", inPlace := ["internal/bytealg.IndexByteString", "internal/bytealg.IndexString", "internal/abi.NoEscape", "internal/bytealg.CountString"], unfollowed := true, recurses := true, named := ["unicodetext/codepoint.hexDigits", "unicode/utf8.first", "unicode/utf8.acceptRanges", "internal/bytealg.MaxLen"], apart := false, laid := [("unicode/utf8.acceptRanges", laid_unicode_utf8_acceptRanges), ("unicodetext/codepoint.hexDigits", laid_unicodetext_codepoint_hexDigits), ("unicode/utf8.first", laid_unicode_utf8_first)] }
def EscapePlacesSaid : Prop := escapePlacesRow.holds Tryd.pinned (OpenSpec.ofChange escapePlacesSpec)

/-- ITS FALSE NEIGHBOUR: 'it returns false'. Refute it at one input. -/
def escapePlacesWrong : ChangeSpec := { name := "escapePlaces", fn := fun _ => fun
  | [d] => { results := [.lit (.bool false)], args := [d] }
  | _ => none }
def EscapePlacesWrongFalsely : Prop := escapePlacesRow.holds Tryd.pinned (OpenSpec.ofChange escapePlacesWrong)

/- THE SECOND FORM. 'bulk': how many values and letters a reading holds, each counted each time it is reached (what is shared counts as often as it is met; a slice's spare places count too). A statement '..UptoSaid' is the law's where the arguments, and the package variables that the reading takes, are together of bulk at most 1048576: NARROWER than '..Said'. Prove '..Said' where nothing that the law and all that it calls make is longer than what came in: it says more and counts as full. Else prove '..UptoSaid'. A law counts once. -/
mutual
def uptoBulk {H : Type} : DataW H → Nat
  | .lit (.string bytes) => bytes.length + 1
  | .lit _ => 1
  | .nil => 1
  | .ptr d => uptoBulk d + 1
  | .slice elems spare => uptoBulkAll elems + uptoBulkAll spare + 1
  | .agg parts => uptoBulkAll parts + 1
  | .iface _ d => uptoBulk d + 1
  | .map entries => uptoBulkEntries entries + 1
  | .held _ => 1
def uptoBulkAll {H : Type} : List (DataW H) → Nat
  | [] => 0
  | d :: r => uptoBulk d + uptoBulkAll r
def uptoBulkEntries {H : Type} : List (Lit × DataW H) → Nat
  | [] => 0
  | x :: r => uptoBulkEntry x + uptoBulkEntries r
def uptoBulkEntry {H : Type} : Lit × DataW H → Nat
  | (.string bytes, d) => bytes.length + uptoBulk d + 1
  | (_, d) => uptoBulk d + 1
 end
def uptoSmall : (H : Type) → List (DataW H) → Bool := fun _ ds => decide (uptoBulkAll ds ≤ 1048576)
def OpenSpec.upto (s : _root_.Go.ChangeSpec) : _root_.Go.OpenSpec := { _root_.Go.OpenSpec.ofChange s with cond := some uptoSmall }

/-- 'unicodetextlaw05.EscapeTexts', WHERE WHAT IT READS IS OF BULK AT MOST 1048576: true; the input reads as it did. -/
def escapeTextsUptoRow : OpenClaim := { program := "ytkfchcmbpgcncaadoor", sum := "9076c7382c3fdd703dfb79e2ae3434f248a6c7237d81900cea544facb5694109", func := "unicodetext/unicodetextlaw05.EscapeTexts", spec := "escapeTexts", inPlace := ["internal/bytealg.IndexByteString", "internal/bytealg.IndexString", "internal/abi.NoEscape", "internal/bytealg.CountString"], unfollowed := true, recurses := true, named := ["unicodetext/codepoint.hexDigits", "unicode/utf8.first", "unicode/utf8.acceptRanges", "internal/bytealg.MaxLen"], apart := false, laid := [("unicode/utf8.acceptRanges", laid_unicode_utf8_acceptRanges), ("unicodetext/codepoint.hexDigits", laid_unicodetext_codepoint_hexDigits), ("unicode/utf8.first", laid_unicode_utf8_first)], narrowed := true }
def EscapeTextsUptoSaid : Prop := escapeTextsUptoRow.holds Tryd.pinned (OpenSpec.upto escapeTextsSpec)

/-- 'unicodetextlaw05.EscapeCodes', WHERE WHAT IT READS IS OF BULK AT MOST 1048576: true; the input reads as it did. -/
def escapeCodesUptoRow : OpenClaim := { program := "ytkfchcmbpgcncaadoor", sum := "9076c7382c3fdd703dfb79e2ae3434f248a6c7237d81900cea544facb5694109", func := "unicodetext/unicodetextlaw05.EscapeCodes", spec := "escapeCodes", inPlace := ["internal/bytealg.IndexByteString", "internal/bytealg.IndexString", "internal/abi.NoEscape", "internal/bytealg.CountString"], unfollowed := true, recurses := true, named := ["unicodetext/codepoint.hexDigits", "unicode/utf8.first", "unicode/utf8.acceptRanges", "internal/bytealg.MaxLen"], apart := false, laid := [("unicode/utf8.acceptRanges", laid_unicode_utf8_acceptRanges), ("unicodetext/codepoint.hexDigits", laid_unicodetext_codepoint_hexDigits), ("unicode/utf8.first", laid_unicode_utf8_first)], narrowed := true }
def EscapeCodesUptoSaid : Prop := escapeCodesUptoRow.holds Tryd.pinned (OpenSpec.upto escapeCodesSpec)

/-- 'unicodetextlaw05.EscapeReads', WHERE WHAT IT READS IS OF BULK AT MOST 1048576: true; the input reads as it did. -/
def escapeReadsUptoRow : OpenClaim := { program := "ytkfchcmbpgcncaadoor", sum := "9076c7382c3fdd703dfb79e2ae3434f248a6c7237d81900cea544facb5694109", func := "unicodetext/unicodetextlaw05.EscapeReads", spec := "escapeReads", inPlace := ["internal/bytealg.IndexByteString", "internal/bytealg.IndexString", "internal/abi.NoEscape", "internal/bytealg.CountString"], unfollowed := true, recurses := true, named := ["unicodetext/codepoint.hexDigits", "unicode/utf8.first", "unicode/utf8.acceptRanges", "internal/bytealg.MaxLen"], apart := false, laid := [("unicode/utf8.acceptRanges", laid_unicode_utf8_acceptRanges), ("unicodetext/codepoint.hexDigits", laid_unicodetext_codepoint_hexDigits), ("unicode/utf8.first", laid_unicode_utf8_first)], narrowed := true }
def EscapeReadsUptoSaid : Prop := escapeReadsUptoRow.holds Tryd.pinned (OpenSpec.upto escapeReadsSpec)

/-- 'unicodetextlaw05.EscapeBack', WHERE WHAT IT READS IS OF BULK AT MOST 1048576: true; the input reads as it did. -/
def escapeBackUptoRow : OpenClaim := { program := "ytkfchcmbpgcncaadoor", sum := "9076c7382c3fdd703dfb79e2ae3434f248a6c7237d81900cea544facb5694109", func := "unicodetext/unicodetextlaw05.EscapeBack", spec := "escapeBack", inPlace := ["internal/bytealg.IndexByteString", "internal/bytealg.IndexString", "internal/abi.NoEscape", "internal/bytealg.CountString"], unfollowed := true, recurses := true, named := ["unicodetext/codepoint.hexDigits", "unicode/utf8.first", "unicode/utf8.acceptRanges", "internal/bytealg.MaxLen"], apart := false, laid := [("unicode/utf8.acceptRanges", laid_unicode_utf8_acceptRanges), ("unicodetext/codepoint.hexDigits", laid_unicodetext_codepoint_hexDigits), ("unicode/utf8.first", laid_unicode_utf8_first)], narrowed := true }
def EscapeBackUptoSaid : Prop := escapeBackUptoRow.holds Tryd.pinned (OpenSpec.upto escapeBackSpec)

/-- 'unicodetextlaw05.EscapeAgain', WHERE WHAT IT READS IS OF BULK AT MOST 1048576: true; the input reads as it did. -/
def escapeAgainUptoRow : OpenClaim := { program := "ytkfchcmbpgcncaadoor", sum := "9076c7382c3fdd703dfb79e2ae3434f248a6c7237d81900cea544facb5694109", func := "unicodetext/unicodetextlaw05.EscapeAgain", spec := "escapeAgain", inPlace := ["internal/bytealg.IndexByteString", "internal/bytealg.IndexString", "internal/abi.NoEscape", "internal/bytealg.CountString"], unfollowed := true, recurses := true, named := ["unicodetext/codepoint.hexDigits", "unicode/utf8.first", "unicode/utf8.acceptRanges", "internal/bytealg.MaxLen"], apart := false, laid := [("unicode/utf8.acceptRanges", laid_unicode_utf8_acceptRanges), ("unicodetext/codepoint.hexDigits", laid_unicodetext_codepoint_hexDigits), ("unicode/utf8.first", laid_unicode_utf8_first)], narrowed := true }
def EscapeAgainUptoSaid : Prop := escapeAgainUptoRow.holds Tryd.pinned (OpenSpec.upto escapeAgainSpec)

/-- 'unicodetextlaw05.EscapeAscii', WHERE WHAT IT READS IS OF BULK AT MOST 1048576: true; the input reads as it did. -/
def escapeAsciiUptoRow : OpenClaim := { program := "ytkfchcmbpgcncaadoor", sum := "9076c7382c3fdd703dfb79e2ae3434f248a6c7237d81900cea544facb5694109", func := "unicodetext/unicodetextlaw05.EscapeAscii", spec := "escapeAscii", inPlace := ["internal/bytealg.IndexByteString", "internal/bytealg.IndexString", "internal/abi.NoEscape", "internal/bytealg.CountString"], unfollowed := true, recurses := true, named := ["unicodetext/codepoint.hexDigits", "unicode/utf8.first", "unicode/utf8.acceptRanges", "internal/bytealg.MaxLen"], apart := false, laid := [("unicode/utf8.acceptRanges", laid_unicode_utf8_acceptRanges), ("unicodetext/codepoint.hexDigits", laid_unicodetext_codepoint_hexDigits), ("unicode/utf8.first", laid_unicode_utf8_first)], narrowed := true }
def EscapeAsciiUptoSaid : Prop := escapeAsciiUptoRow.holds Tryd.pinned (OpenSpec.upto escapeAsciiSpec)

/-- 'unicodetextlaw05.EscapeJoins', WHERE WHAT IT READS IS OF BULK AT MOST 1048576: true; the input reads as it did. -/
def escapeJoinsUptoRow : OpenClaim := { program := "ytkfchcmbpgcncaadoor", sum := "9076c7382c3fdd703dfb79e2ae3434f248a6c7237d81900cea544facb5694109", func := "unicodetext/unicodetextlaw05.EscapeJoins", spec := "escapeJoins", inPlace := ["internal/bytealg.IndexByteString", "internal/bytealg.IndexString", "internal/abi.NoEscape", "internal/bytealg.CountString"], unfollowed := true, recurses := true, named := ["unicodetext/codepoint.hexDigits", "unicode/utf8.first", "unicode/utf8.acceptRanges", "internal/bytealg.MaxLen"], apart := false, laid := [("unicode/utf8.acceptRanges", laid_unicode_utf8_acceptRanges), ("unicodetext/codepoint.hexDigits", laid_unicodetext_codepoint_hexDigits), ("unicode/utf8.first", laid_unicode_utf8_first)], narrowed := true }
def EscapeJoinsUptoSaid : Prop := escapeJoinsUptoRow.holds Tryd.pinned (OpenSpec.upto escapeJoinsSpec)

/-- 'unicodetextlaw05.EscapeForms', WHERE WHAT IT READS IS OF BULK AT MOST 1048576: true; the input reads as it did. -/
def escapeFormsUptoRow : OpenClaim := { program := "ytkfchcmbpgcncaadoor", sum := "9076c7382c3fdd703dfb79e2ae3434f248a6c7237d81900cea544facb5694109", func := "unicodetext/unicodetextlaw05.EscapeForms", spec := "escapeForms", inPlace := ["internal/bytealg.IndexByteString", "internal/bytealg.IndexString", "internal/abi.NoEscape", "internal/bytealg.CountString"], unfollowed := true, recurses := true, named := ["unicodetext/codepoint.hexDigits", "unicode/utf8.first", "unicode/utf8.acceptRanges", "internal/bytealg.MaxLen"], apart := false, laid := [("unicode/utf8.acceptRanges", laid_unicode_utf8_acceptRanges), ("unicodetext/codepoint.hexDigits", laid_unicodetext_codepoint_hexDigits), ("unicode/utf8.first", laid_unicode_utf8_first)], narrowed := true }
def EscapeFormsUptoSaid : Prop := escapeFormsUptoRow.holds Tryd.pinned (OpenSpec.upto escapeFormsSpec)

/-- 'unicodetextlaw05.EscapePlaces', WHERE WHAT IT READS IS OF BULK AT MOST 1048576: true; the input reads as it did. -/
def escapePlacesUptoRow : OpenClaim := { program := "ytkfchcmbpgcncaadoor", sum := "9076c7382c3fdd703dfb79e2ae3434f248a6c7237d81900cea544facb5694109", func := "unicodetext/unicodetextlaw05.EscapePlaces", spec := "escapePlaces", inPlace := ["internal/bytealg.IndexByteString", "internal/bytealg.IndexString", "internal/abi.NoEscape", "internal/bytealg.CountString"], unfollowed := true, recurses := true, named := ["unicodetext/codepoint.hexDigits", "unicode/utf8.first", "unicode/utf8.acceptRanges", "internal/bytealg.MaxLen"], apart := false, laid := [("unicode/utf8.acceptRanges", laid_unicode_utf8_acceptRanges), ("unicodetext/codepoint.hexDigits", laid_unicodetext_codepoint_hexDigits), ("unicode/utf8.first", laid_unicode_utf8_first)], narrowed := true }
def EscapePlacesUptoSaid : Prop := escapePlacesUptoRow.holds Tryd.pinned (OpenSpec.upto escapePlacesSpec)

end Rows
end Go.Proofs.YtkfchcmbpgcncaaDoor
