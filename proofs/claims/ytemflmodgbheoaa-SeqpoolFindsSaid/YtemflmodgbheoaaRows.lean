/-
  No cell of these rows narrows 'for every input' (looked for: loops, veiled, ifaces, maps, wideKeys, modest, calm, conditions, laid).
  DERIVED. THE GIVEN ROWS OF THIS SEAT. 8 by the template 'for every input the law returns true; each argument reads behind the call as it read before'; 0 by the template 'total and deterministic' (their statements: YtemflmodgbheoaaTotals.lean).
  GIVEN WITH THE SEED: the statements are not yours to turn. If you find one false, say at which input.
  Laid BY PROGRAM, IN A SANDBOX (cutbox-rows.mjs): the forced cells as the released guide's own fill.sh prints them over the translation b12f0fab5f7eb0e1… (all of the seat's roots in one cut). By AI agents, Wed Nov 11 2026. No macro, syntax, notation, axiom, sorry.
-/
import Derived.Test.YtemflmodgbheoaaChecked
import GoSem.Claim
import GoSem.ClaimJoined
import GoSem.ClaimMapViews
import Derived.JoinedTies
import Derived.KernelRfl
namespace Go.Proofs.Ytemflmodgbheoaa
/- THE CELL 'sum', in the pinned program and in every row, IS THE sha256 OF THE DUMP (.gsa) THAT YtemflmodgbheoaaProg.lean LOADS. Nothing in Lean hashes anything: it is a label: what it is worth is what the hold of that sum in a sandbox is worth. -/
noncomputable def Try.pinned : Pinned := { name := "ytemflmodgbheoaa", sum := "b12f0fab5f7eb0e1173f3eb821ee49eb685ecba29ad5678b0bb1742684c4d930", checked := Try.checked }
namespace Rows
def none {H : Type} : Left H := { results := [], args := [] }

/-- 'unicodetextlaw14.SeqpoolPacks': WHATEVER THE INPUT: true; the input reads as it did. -/
def seqpoolPacksSpec : ChangeSpec := { name := "seqpoolPacks", fn := fun _ => fun
  | [d] => { results := [.lit (.bool true)], args := [d] }
  | _ => none }
def seqpoolPacksRow : OpenClaim := { program := "ytemflmodgbheoaa", sum := "b12f0fab5f7eb0e1173f3eb821ee49eb685ecba29ad5678b0bb1742684c4d930", func := "unicodetext/unicodetextlaw14.SeqpoolPacks", spec := "seqpoolPacks", apart := false }
def SeqpoolPacksSaid : Prop := seqpoolPacksRow.holds Try.pinned (OpenSpec.ofChange seqpoolPacksSpec)

/-- ITS FALSE NEIGHBOUR: 'it returns false'. Refute it at one input. -/
def seqpoolPacksWrong : ChangeSpec := { name := "seqpoolPacks", fn := fun _ => fun
  | [d] => { results := [.lit (.bool false)], args := [d] }
  | _ => none }
def SeqpoolPacksWrongFalsely : Prop := seqpoolPacksRow.holds Try.pinned (OpenSpec.ofChange seqpoolPacksWrong)

/-- 'unicodetextlaw14.SeqpoolAdds': WHATEVER THE INPUT: true; the input reads as it did. -/
def seqpoolAddsSpec : ChangeSpec := { name := "seqpoolAdds", fn := fun _ => fun
  | [d1, d2] => { results := [.lit (.bool true)], args := [d1, d2] }
  | _ => none }
def seqpoolAddsRow : OpenClaim := { program := "ytemflmodgbheoaa", sum := "b12f0fab5f7eb0e1173f3eb821ee49eb685ecba29ad5678b0bb1742684c4d930", func := "unicodetext/unicodetextlaw14.SeqpoolAdds", spec := "seqpoolAdds", apart := false }
def SeqpoolAddsSaid : Prop := seqpoolAddsRow.holds Try.pinned (OpenSpec.ofChange seqpoolAddsSpec)

/-- ITS FALSE NEIGHBOUR: 'it returns false'. Refute it at one input. -/
def seqpoolAddsWrong : ChangeSpec := { name := "seqpoolAdds", fn := fun _ => fun
  | [d1, d2] => { results := [.lit (.bool false)], args := [d1, d2] }
  | _ => none }
def SeqpoolAddsWrongFalsely : Prop := seqpoolAddsRow.holds Try.pinned (OpenSpec.ofChange seqpoolAddsWrong)

/-- 'unicodetextlaw14.SeqpoolGets': WHATEVER THE INPUT: true; the input reads as it did. -/
def seqpoolGetsSpec : ChangeSpec := { name := "seqpoolGets", fn := fun _ => fun
  | [d1, d2] => { results := [.lit (.bool true)], args := [d1, d2] }
  | _ => none }
def seqpoolGetsRow : OpenClaim := { program := "ytemflmodgbheoaa", sum := "b12f0fab5f7eb0e1173f3eb821ee49eb685ecba29ad5678b0bb1742684c4d930", func := "unicodetext/unicodetextlaw14.SeqpoolGets", spec := "seqpoolGets", apart := false }
def SeqpoolGetsSaid : Prop := seqpoolGetsRow.holds Try.pinned (OpenSpec.ofChange seqpoolGetsSpec)

/-- ITS FALSE NEIGHBOUR: 'it returns false'. Refute it at one input. -/
def seqpoolGetsWrong : ChangeSpec := { name := "seqpoolGets", fn := fun _ => fun
  | [d1, d2] => { results := [.lit (.bool false)], args := [d1, d2] }
  | _ => none }
def SeqpoolGetsWrongFalsely : Prop := seqpoolGetsRow.holds Try.pinned (OpenSpec.ofChange seqpoolGetsWrong)

/-- 'unicodetextlaw14.SeqpoolFinds': WHATEVER THE INPUT: true; the input reads as it did. -/
def seqpoolFindsSpec : ChangeSpec := { name := "seqpoolFinds", fn := fun _ => fun
  | [d1, d2] => { results := [.lit (.bool true)], args := [d1, d2] }
  | _ => none }
def seqpoolFindsRow : OpenClaim := { program := "ytemflmodgbheoaa", sum := "b12f0fab5f7eb0e1173f3eb821ee49eb685ecba29ad5678b0bb1742684c4d930", func := "unicodetext/unicodetextlaw14.SeqpoolFinds", spec := "seqpoolFinds", apart := false }
def SeqpoolFindsSaid : Prop := seqpoolFindsRow.holds Try.pinned (OpenSpec.ofChange seqpoolFindsSpec)

/-- ITS FALSE NEIGHBOUR: 'it returns false'. Refute it at one input. -/
def seqpoolFindsWrong : ChangeSpec := { name := "seqpoolFinds", fn := fun _ => fun
  | [d1, d2] => { results := [.lit (.bool false)], args := [d1, d2] }
  | _ => none }
def SeqpoolFindsWrongFalsely : Prop := seqpoolFindsRow.holds Try.pinned (OpenSpec.ofChange seqpoolFindsWrong)

/-- 'unicodetextlaw14.SeqpoolBack': WHATEVER THE INPUT: true; the input reads as it did. -/
def seqpoolBackSpec : ChangeSpec := { name := "seqpoolBack", fn := fun _ => fun
  | [d] => { results := [.lit (.bool true)], args := [d] }
  | _ => none }
def seqpoolBackRow : OpenClaim := { program := "ytemflmodgbheoaa", sum := "b12f0fab5f7eb0e1173f3eb821ee49eb685ecba29ad5678b0bb1742684c4d930", func := "unicodetext/unicodetextlaw14.SeqpoolBack", spec := "seqpoolBack", apart := false }
def SeqpoolBackSaid : Prop := seqpoolBackRow.holds Try.pinned (OpenSpec.ofChange seqpoolBackSpec)

/-- ITS FALSE NEIGHBOUR: 'it returns false'. Refute it at one input. -/
def seqpoolBackWrong : ChangeSpec := { name := "seqpoolBack", fn := fun _ => fun
  | [d] => { results := [.lit (.bool false)], args := [d] }
  | _ => none }
def SeqpoolBackWrongFalsely : Prop := seqpoolBackRow.holds Try.pinned (OpenSpec.ofChange seqpoolBackWrong)

/-- 'unicodetextlaw14.SeqpoolSaves': WHATEVER THE INPUT: true; the input reads as it did. -/
def seqpoolSavesSpec : ChangeSpec := { name := "seqpoolSaves", fn := fun _ => fun
  | [d1, d2, d3, d4] => { results := [.lit (.bool true)], args := [d1, d2, d3, d4] }
  | _ => none }
def seqpoolSavesRow : OpenClaim := { program := "ytemflmodgbheoaa", sum := "b12f0fab5f7eb0e1173f3eb821ee49eb685ecba29ad5678b0bb1742684c4d930", func := "unicodetext/unicodetextlaw14.SeqpoolSaves", spec := "seqpoolSaves", apart := false }
def SeqpoolSavesSaid : Prop := seqpoolSavesRow.holds Try.pinned (OpenSpec.ofChange seqpoolSavesSpec)

/-- ITS FALSE NEIGHBOUR: 'it returns false'. Refute it at one input. -/
def seqpoolSavesWrong : ChangeSpec := { name := "seqpoolSaves", fn := fun _ => fun
  | [d1, d2, d3, d4] => { results := [.lit (.bool false)], args := [d1, d2, d3, d4] }
  | _ => none }
def SeqpoolSavesWrongFalsely : Prop := seqpoolSavesRow.holds Try.pinned (OpenSpec.ofChange seqpoolSavesWrong)

/-- 'unicodetextlaw14.SeqpoolKeeps': WHATEVER THE INPUT: true; the input reads as it did. -/
def seqpoolKeepsSpec : ChangeSpec := { name := "seqpoolKeeps", fn := fun _ => fun
  | [d1, d2] => { results := [.lit (.bool true)], args := [d1, d2] }
  | _ => none }
def seqpoolKeepsRow : OpenClaim := { program := "ytemflmodgbheoaa", sum := "b12f0fab5f7eb0e1173f3eb821ee49eb685ecba29ad5678b0bb1742684c4d930", func := "unicodetext/unicodetextlaw14.SeqpoolKeeps", spec := "seqpoolKeeps", apart := false }
def SeqpoolKeepsSaid : Prop := seqpoolKeepsRow.holds Try.pinned (OpenSpec.ofChange seqpoolKeepsSpec)

/-- ITS FALSE NEIGHBOUR: 'it returns false'. Refute it at one input. -/
def seqpoolKeepsWrong : ChangeSpec := { name := "seqpoolKeeps", fn := fun _ => fun
  | [d1, d2] => { results := [.lit (.bool false)], args := [d1, d2] }
  | _ => none }
def SeqpoolKeepsWrongFalsely : Prop := seqpoolKeepsRow.holds Try.pinned (OpenSpec.ofChange seqpoolKeepsWrong)

/-- 'unicodetextlaw14.SeqpoolSteps': WHATEVER THE INPUT: true; the input reads as it did. -/
def seqpoolStepsSpec : ChangeSpec := { name := "seqpoolSteps", fn := fun _ => fun
  | [d1, d2] => { results := [.lit (.bool true)], args := [d1, d2] }
  | _ => none }
def seqpoolStepsRow : OpenClaim := { program := "ytemflmodgbheoaa", sum := "b12f0fab5f7eb0e1173f3eb821ee49eb685ecba29ad5678b0bb1742684c4d930", func := "unicodetext/unicodetextlaw14.SeqpoolSteps", spec := "seqpoolSteps", apart := false }
def SeqpoolStepsSaid : Prop := seqpoolStepsRow.holds Try.pinned (OpenSpec.ofChange seqpoolStepsSpec)

/-- ITS FALSE NEIGHBOUR: 'it returns false'. Refute it at one input. -/
def seqpoolStepsWrong : ChangeSpec := { name := "seqpoolSteps", fn := fun _ => fun
  | [d1, d2] => { results := [.lit (.bool false)], args := [d1, d2] }
  | _ => none }
def SeqpoolStepsWrongFalsely : Prop := seqpoolStepsRow.holds Try.pinned (OpenSpec.ofChange seqpoolStepsWrong)

/- THE SECOND FORM. 'bulk': how many values and letters a reading holds, each counted each time it is reached (what is shared counts as often as it is met; a slice's spare places count too). A statement '..UptoSaid' is the law's where the arguments, and the package variables that the reading takes, are together of bulk at most 1048576: NARROWER than '..Said'. Prove '..Said' where nothing that the law and all that it calls make is longer than what came in: it says more and counts as full. Else prove '..UptoSaid'. A law counts once. -/
mutual
def uptoBulk {H : Type} : DataW H → Nat
  | .lit (.string bytes) => bytes.length + 1
  | .lit _ => 1
  | .nil => 1
  | .ptr d => uptoBulk d + 1
  | .slice elems spare => uptoBulkAll elems + uptoBulkAll spare + 1
  | .agg parts => uptoBulkAll parts + 1
  | .iface _ d => uptoBulk d + 1
  | .map entries => uptoBulkEntries entries + 1
  | .held _ => 1
def uptoBulkAll {H : Type} : List (DataW H) → Nat
  | [] => 0
  | d :: r => uptoBulk d + uptoBulkAll r
def uptoBulkEntries {H : Type} : List (Lit × DataW H) → Nat
  | [] => 0
  | x :: r => uptoBulkEntry x + uptoBulkEntries r
def uptoBulkEntry {H : Type} : Lit × DataW H → Nat
  | (.string bytes, d) => bytes.length + uptoBulk d + 1
  | (_, d) => uptoBulk d + 1
 end
def uptoSmall : (H : Type) → List (DataW H) → Bool := fun _ ds => decide (uptoBulkAll ds ≤ 1048576)
def OpenSpec.upto (s : _root_.Go.ChangeSpec) : _root_.Go.OpenSpec := { _root_.Go.OpenSpec.ofChange s with cond := some uptoSmall }

/-- 'unicodetextlaw14.SeqpoolPacks', WHERE WHAT IT READS IS OF BULK AT MOST 1048576: true; the input reads as it did. -/
def seqpoolPacksUptoRow : OpenClaim := { program := "ytemflmodgbheoaa", sum := "b12f0fab5f7eb0e1173f3eb821ee49eb685ecba29ad5678b0bb1742684c4d930", func := "unicodetext/unicodetextlaw14.SeqpoolPacks", spec := "seqpoolPacks", apart := false, narrowed := true }
def SeqpoolPacksUptoSaid : Prop := seqpoolPacksUptoRow.holds Try.pinned (OpenSpec.upto seqpoolPacksSpec)

/-- 'unicodetextlaw14.SeqpoolAdds', WHERE WHAT IT READS IS OF BULK AT MOST 1048576: true; the input reads as it did. -/
def seqpoolAddsUptoRow : OpenClaim := { program := "ytemflmodgbheoaa", sum := "b12f0fab5f7eb0e1173f3eb821ee49eb685ecba29ad5678b0bb1742684c4d930", func := "unicodetext/unicodetextlaw14.SeqpoolAdds", spec := "seqpoolAdds", apart := false, narrowed := true }
def SeqpoolAddsUptoSaid : Prop := seqpoolAddsUptoRow.holds Try.pinned (OpenSpec.upto seqpoolAddsSpec)

/-- 'unicodetextlaw14.SeqpoolGets', WHERE WHAT IT READS IS OF BULK AT MOST 1048576: true; the input reads as it did. -/
def seqpoolGetsUptoRow : OpenClaim := { program := "ytemflmodgbheoaa", sum := "b12f0fab5f7eb0e1173f3eb821ee49eb685ecba29ad5678b0bb1742684c4d930", func := "unicodetext/unicodetextlaw14.SeqpoolGets", spec := "seqpoolGets", apart := false, narrowed := true }
def SeqpoolGetsUptoSaid : Prop := seqpoolGetsUptoRow.holds Try.pinned (OpenSpec.upto seqpoolGetsSpec)

/-- 'unicodetextlaw14.SeqpoolFinds', WHERE WHAT IT READS IS OF BULK AT MOST 1048576: true; the input reads as it did. -/
def seqpoolFindsUptoRow : OpenClaim := { program := "ytemflmodgbheoaa", sum := "b12f0fab5f7eb0e1173f3eb821ee49eb685ecba29ad5678b0bb1742684c4d930", func := "unicodetext/unicodetextlaw14.SeqpoolFinds", spec := "seqpoolFinds", apart := false, narrowed := true }
def SeqpoolFindsUptoSaid : Prop := seqpoolFindsUptoRow.holds Try.pinned (OpenSpec.upto seqpoolFindsSpec)

/-- 'unicodetextlaw14.SeqpoolBack', WHERE WHAT IT READS IS OF BULK AT MOST 1048576: true; the input reads as it did. -/
def seqpoolBackUptoRow : OpenClaim := { program := "ytemflmodgbheoaa", sum := "b12f0fab5f7eb0e1173f3eb821ee49eb685ecba29ad5678b0bb1742684c4d930", func := "unicodetext/unicodetextlaw14.SeqpoolBack", spec := "seqpoolBack", apart := false, narrowed := true }
def SeqpoolBackUptoSaid : Prop := seqpoolBackUptoRow.holds Try.pinned (OpenSpec.upto seqpoolBackSpec)

/-- 'unicodetextlaw14.SeqpoolSaves', WHERE WHAT IT READS IS OF BULK AT MOST 1048576: true; the input reads as it did. -/
def seqpoolSavesUptoRow : OpenClaim := { program := "ytemflmodgbheoaa", sum := "b12f0fab5f7eb0e1173f3eb821ee49eb685ecba29ad5678b0bb1742684c4d930", func := "unicodetext/unicodetextlaw14.SeqpoolSaves", spec := "seqpoolSaves", apart := false, narrowed := true }
def SeqpoolSavesUptoSaid : Prop := seqpoolSavesUptoRow.holds Try.pinned (OpenSpec.upto seqpoolSavesSpec)

/-- 'unicodetextlaw14.SeqpoolKeeps', WHERE WHAT IT READS IS OF BULK AT MOST 1048576: true; the input reads as it did. -/
def seqpoolKeepsUptoRow : OpenClaim := { program := "ytemflmodgbheoaa", sum := "b12f0fab5f7eb0e1173f3eb821ee49eb685ecba29ad5678b0bb1742684c4d930", func := "unicodetext/unicodetextlaw14.SeqpoolKeeps", spec := "seqpoolKeeps", apart := false, narrowed := true }
def SeqpoolKeepsUptoSaid : Prop := seqpoolKeepsUptoRow.holds Try.pinned (OpenSpec.upto seqpoolKeepsSpec)

/-- 'unicodetextlaw14.SeqpoolSteps', WHERE WHAT IT READS IS OF BULK AT MOST 1048576: true; the input reads as it did. -/
def seqpoolStepsUptoRow : OpenClaim := { program := "ytemflmodgbheoaa", sum := "b12f0fab5f7eb0e1173f3eb821ee49eb685ecba29ad5678b0bb1742684c4d930", func := "unicodetext/unicodetextlaw14.SeqpoolSteps", spec := "seqpoolSteps", apart := false, narrowed := true }
def SeqpoolStepsUptoSaid : Prop := seqpoolStepsUptoRow.holds Try.pinned (OpenSpec.upto seqpoolStepsSpec)

end Rows
end Go.Proofs.Ytemflmodgbheoaa
