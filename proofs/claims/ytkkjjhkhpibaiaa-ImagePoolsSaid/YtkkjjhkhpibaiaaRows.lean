/-
  No cell of these rows narrows 'for every input' (looked for: loops, veiled, ifaces, maps, wideKeys, modest, calm, conditions, laid).
  DERIVED. THE GIVEN ROWS OF THIS SEAT. 10 by the template 'for every input the law returns true; each argument reads behind the call as it read before'; 0 by the template 'total and deterministic' (their statements: YtkkjjhkhpibaiaaTotals.lean).
  GIVEN WITH THE SEED: the statements are not yours to turn. If you find one false, say at which input.
  Laid BY PROGRAM, IN A SANDBOX (cutbox-rows.mjs): the forced cells as the released guide's own fill.sh prints them over the translation c9d2bee4e97f65d8… (all of the seat's roots in one cut). By AI agents, Wed Nov 11 2026. No macro, syntax, notation, axiom, sorry.
-/
import Derived.Test.YtkkjjhkhpibaiaaChecked
import GoSem.Claim
import GoSem.ClaimJoined
import GoSem.ClaimMapViews
import Derived.JoinedTies
import Derived.KernelRfl
namespace Go.Proofs.Ytkkjjhkhpibaiaa
/- THE CELL 'sum', in the pinned program and in every row, IS THE sha256 OF THE DUMP (.gsa) THAT YtkkjjhkhpibaiaaProg.lean LOADS. Nothing in Lean hashes anything: it is a label: what it is worth is what the hold of that sum in a sandbox is worth. -/
noncomputable def Try.pinned : Pinned := { name := "ytkkjjhkhpibaiaa", sum := "c9d2bee4e97f65d880f6f78cb644e9ec0eb79874245f9c3b453b1eada3921030", checked := Try.checked }
namespace Rows
def none {H : Type} : Left H := { results := [], args := [] }

/-- 'unicodetextlaw15.ImageSums': WHATEVER THE INPUT: true; the input reads as it did. -/
def imageSumsSpec : ChangeSpec := { name := "imageSums", fn := fun _ => fun
  | [d] => { results := [.lit (.bool true)], args := [d] }
  | _ => none }
def imageSumsRow : OpenClaim := { program := "ytkkjjhkhpibaiaa", sum := "c9d2bee4e97f65d880f6f78cb644e9ec0eb79874245f9c3b453b1eada3921030", func := "unicodetext/unicodetextlaw15.ImageSums", spec := "imageSums", unfollowed := true, recurses := true, apart := false }
def ImageSumsSaid : Prop := imageSumsRow.holds Try.pinned (OpenSpec.ofChange imageSumsSpec)

/-- ITS FALSE NEIGHBOUR: 'it returns false'. Refute it at one input. -/
def imageSumsWrong : ChangeSpec := { name := "imageSums", fn := fun _ => fun
  | [d] => { results := [.lit (.bool false)], args := [d] }
  | _ => none }
def ImageSumsWrongFalsely : Prop := imageSumsRow.holds Try.pinned (OpenSpec.ofChange imageSumsWrong)

/-- 'unicodetextlaw15.ImageInts': WHATEVER THE INPUT: true; the input reads as it did. -/
def imageIntsSpec : ChangeSpec := { name := "imageInts", fn := fun _ => fun
  | [d] => { results := [.lit (.bool true)], args := [d] }
  | _ => none }
def imageIntsRow : OpenClaim := { program := "ytkkjjhkhpibaiaa", sum := "c9d2bee4e97f65d880f6f78cb644e9ec0eb79874245f9c3b453b1eada3921030", func := "unicodetext/unicodetextlaw15.ImageInts", spec := "imageInts", unfollowed := true, recurses := true, apart := false }
def ImageIntsSaid : Prop := imageIntsRow.holds Try.pinned (OpenSpec.ofChange imageIntsSpec)

/-- ITS FALSE NEIGHBOUR: 'it returns false'. Refute it at one input. -/
def imageIntsWrong : ChangeSpec := { name := "imageInts", fn := fun _ => fun
  | [d] => { results := [.lit (.bool false)], args := [d] }
  | _ => none }
def ImageIntsWrongFalsely : Prop := imageIntsRow.holds Try.pinned (OpenSpec.ofChange imageIntsWrong)

/-- 'unicodetextlaw15.ImageRounds': WHATEVER THE INPUT: true; the input reads as it did. -/
def imageRoundsSpec : ChangeSpec := { name := "imageRounds", fn := fun _ => fun
  | [d1, d2, d3] => { results := [.lit (.bool true)], args := [d1, d2, d3] }
  | _ => none }
def imageRoundsRow : OpenClaim := { program := "ytkkjjhkhpibaiaa", sum := "c9d2bee4e97f65d880f6f78cb644e9ec0eb79874245f9c3b453b1eada3921030", func := "unicodetext/unicodetextlaw15.ImageRounds", spec := "imageRounds", unfollowed := true, recurses := true, apart := false }
def ImageRoundsSaid : Prop := imageRoundsRow.holds Try.pinned (OpenSpec.ofChange imageRoundsSpec)

/-- ITS FALSE NEIGHBOUR: 'it returns false'. Refute it at one input. -/
def imageRoundsWrong : ChangeSpec := { name := "imageRounds", fn := fun _ => fun
  | [d1, d2, d3] => { results := [.lit (.bool false)], args := [d1, d2, d3] }
  | _ => none }
def ImageRoundsWrongFalsely : Prop := imageRoundsRow.holds Try.pinned (OpenSpec.ofChange imageRoundsWrong)

/-- 'unicodetextlaw15.ImageMinimal': WHATEVER THE INPUT: true; the input reads as it did. -/
def imageMinimalSpec : ChangeSpec := { name := "imageMinimal", fn := fun _ => fun
  | [d] => { results := [.lit (.bool true)], args := [d] }
  | _ => none }
def imageMinimalRow : OpenClaim := { program := "ytkkjjhkhpibaiaa", sum := "c9d2bee4e97f65d880f6f78cb644e9ec0eb79874245f9c3b453b1eada3921030", func := "unicodetext/unicodetextlaw15.ImageMinimal", spec := "imageMinimal", unfollowed := true, recurses := true, apart := false }
def ImageMinimalSaid : Prop := imageMinimalRow.holds Try.pinned (OpenSpec.ofChange imageMinimalSpec)

/-- ITS FALSE NEIGHBOUR: 'it returns false'. Refute it at one input. -/
def imageMinimalWrong : ChangeSpec := { name := "imageMinimal", fn := fun _ => fun
  | [d] => { results := [.lit (.bool false)], args := [d] }
  | _ => none }
def ImageMinimalWrongFalsely : Prop := imageMinimalRow.holds Try.pinned (OpenSpec.ofChange imageMinimalWrong)

/-- 'unicodetextlaw15.ImageSeals': WHATEVER THE INPUT: true; the input reads as it did. -/
def imageSealsSpec : ChangeSpec := { name := "imageSeals", fn := fun _ => fun
  | [d1, d2] => { results := [.lit (.bool true)], args := [d1, d2] }
  | _ => none }
def imageSealsRow : OpenClaim := { program := "ytkkjjhkhpibaiaa", sum := "c9d2bee4e97f65d880f6f78cb644e9ec0eb79874245f9c3b453b1eada3921030", func := "unicodetext/unicodetextlaw15.ImageSeals", spec := "imageSeals", unfollowed := true, recurses := true, apart := false }
def ImageSealsSaid : Prop := imageSealsRow.holds Try.pinned (OpenSpec.ofChange imageSealsSpec)

/-- ITS FALSE NEIGHBOUR: 'it returns false'. Refute it at one input. -/
def imageSealsWrong : ChangeSpec := { name := "imageSeals", fn := fun _ => fun
  | [d1, d2] => { results := [.lit (.bool false)], args := [d1, d2] }
  | _ => none }
def ImageSealsWrongFalsely : Prop := imageSealsRow.holds Try.pinned (OpenSpec.ofChange imageSealsWrong)

/-- 'unicodetextlaw15.ImageChanges': WHATEVER THE INPUT: true; the input reads as it did. -/
def imageChangesSpec : ChangeSpec := { name := "imageChanges", fn := fun _ => fun
  | [d1, d2, d3] => { results := [.lit (.bool true)], args := [d1, d2, d3] }
  | _ => none }
def imageChangesRow : OpenClaim := { program := "ytkkjjhkhpibaiaa", sum := "c9d2bee4e97f65d880f6f78cb644e9ec0eb79874245f9c3b453b1eada3921030", func := "unicodetext/unicodetextlaw15.ImageChanges", spec := "imageChanges", unfollowed := true, recurses := true, apart := false }
def ImageChangesSaid : Prop := imageChangesRow.holds Try.pinned (OpenSpec.ofChange imageChangesSpec)

/-- ITS FALSE NEIGHBOUR: 'it returns false'. Refute it at one input. -/
def imageChangesWrong : ChangeSpec := { name := "imageChanges", fn := fun _ => fun
  | [d1, d2, d3] => { results := [.lit (.bool false)], args := [d1, d2, d3] }
  | _ => none }
def ImageChangesWrongFalsely : Prop := imageChangesRow.holds Try.pinned (OpenSpec.ofChange imageChangesWrong)

/-- 'unicodetextlaw15.ImageTables': WHATEVER THE INPUT: true; the input reads as it did. -/
def imageTablesSpec : ChangeSpec := { name := "imageTables", fn := fun _ => fun
  | [d] => { results := [.lit (.bool true)], args := [d] }
  | _ => none }
def imageTablesRow : OpenClaim := { program := "ytkkjjhkhpibaiaa", sum := "c9d2bee4e97f65d880f6f78cb644e9ec0eb79874245f9c3b453b1eada3921030", func := "unicodetext/unicodetextlaw15.ImageTables", spec := "imageTables", unfollowed := true, recurses := true, apart := false }
def ImageTablesSaid : Prop := imageTablesRow.holds Try.pinned (OpenSpec.ofChange imageTablesSpec)

/-- ITS FALSE NEIGHBOUR: 'it returns false'. Refute it at one input. -/
def imageTablesWrong : ChangeSpec := { name := "imageTables", fn := fun _ => fun
  | [d] => { results := [.lit (.bool false)], args := [d] }
  | _ => none }
def ImageTablesWrongFalsely : Prop := imageTablesRow.holds Try.pinned (OpenSpec.ofChange imageTablesWrong)

/-- 'unicodetextlaw15.ImageReadTables': WHATEVER THE INPUT: true; the input reads as it did. -/
def imageReadTablesSpec : ChangeSpec := { name := "imageReadTables", fn := fun _ => fun
  | [d1, d2] => { results := [.lit (.bool true)], args := [d1, d2] }
  | _ => none }
def imageReadTablesRow : OpenClaim := { program := "ytkkjjhkhpibaiaa", sum := "c9d2bee4e97f65d880f6f78cb644e9ec0eb79874245f9c3b453b1eada3921030", func := "unicodetext/unicodetextlaw15.ImageReadTables", spec := "imageReadTables", unfollowed := true, recurses := true, apart := false }
def ImageReadTablesSaid : Prop := imageReadTablesRow.holds Try.pinned (OpenSpec.ofChange imageReadTablesSpec)

/-- ITS FALSE NEIGHBOUR: 'it returns false'. Refute it at one input. -/
def imageReadTablesWrong : ChangeSpec := { name := "imageReadTables", fn := fun _ => fun
  | [d1, d2] => { results := [.lit (.bool false)], args := [d1, d2] }
  | _ => none }
def ImageReadTablesWrongFalsely : Prop := imageReadTablesRow.holds Try.pinned (OpenSpec.ofChange imageReadTablesWrong)

/-- 'unicodetextlaw15.ImagePools': WHATEVER THE INPUT: true; the input reads as it did. -/
def imagePoolsSpec : ChangeSpec := { name := "imagePools", fn := fun _ => fun
  | [d] => { results := [.lit (.bool true)], args := [d] }
  | _ => none }
def imagePoolsRow : OpenClaim := { program := "ytkkjjhkhpibaiaa", sum := "c9d2bee4e97f65d880f6f78cb644e9ec0eb79874245f9c3b453b1eada3921030", func := "unicodetext/unicodetextlaw15.ImagePools", spec := "imagePools", unfollowed := true, recurses := true, apart := false }
def ImagePoolsSaid : Prop := imagePoolsRow.holds Try.pinned (OpenSpec.ofChange imagePoolsSpec)

/-- ITS FALSE NEIGHBOUR: 'it returns false'. Refute it at one input. -/
def imagePoolsWrong : ChangeSpec := { name := "imagePools", fn := fun _ => fun
  | [d] => { results := [.lit (.bool false)], args := [d] }
  | _ => none }
def ImagePoolsWrongFalsely : Prop := imagePoolsRow.holds Try.pinned (OpenSpec.ofChange imagePoolsWrong)

/-- 'unicodetextlaw15.ImageReadPools': WHATEVER THE INPUT: true; the input reads as it did. -/
def imageReadPoolsSpec : ChangeSpec := { name := "imageReadPools", fn := fun _ => fun
  | [d1, d2] => { results := [.lit (.bool true)], args := [d1, d2] }
  | _ => none }
def imageReadPoolsRow : OpenClaim := { program := "ytkkjjhkhpibaiaa", sum := "c9d2bee4e97f65d880f6f78cb644e9ec0eb79874245f9c3b453b1eada3921030", func := "unicodetext/unicodetextlaw15.ImageReadPools", spec := "imageReadPools", unfollowed := true, recurses := true, apart := false }
def ImageReadPoolsSaid : Prop := imageReadPoolsRow.holds Try.pinned (OpenSpec.ofChange imageReadPoolsSpec)

/-- ITS FALSE NEIGHBOUR: 'it returns false'. Refute it at one input. -/
def imageReadPoolsWrong : ChangeSpec := { name := "imageReadPools", fn := fun _ => fun
  | [d1, d2] => { results := [.lit (.bool false)], args := [d1, d2] }
  | _ => none }
def ImageReadPoolsWrongFalsely : Prop := imageReadPoolsRow.holds Try.pinned (OpenSpec.ofChange imageReadPoolsWrong)

/- THE SECOND FORM. 'bulk': how many values and letters a reading holds, each counted each time it is reached (what is shared counts as often as it is met; a slice's spare places count too). A statement '..UptoSaid' is the law's where the arguments, and the package variables that the reading takes, are together of bulk at most 1048576: NARROWER than '..Said'. Prove '..Said' where nothing that the law and all that it calls make is longer than what came in: it says more and counts as full. Else prove '..UptoSaid'. A law counts once. -/
mutual
def uptoBulk {H : Type} : DataW H → Nat
  | .lit (.string bytes) => bytes.length + 1
  | .lit _ => 1
  | .nil => 1
  | .ptr d => uptoBulk d + 1
  | .slice elems spare => uptoBulkAll elems + uptoBulkAll spare + 1
  | .agg parts => uptoBulkAll parts + 1
  | .iface _ d => uptoBulk d + 1
  | .map entries => uptoBulkEntries entries + 1
  | .held _ => 1
def uptoBulkAll {H : Type} : List (DataW H) → Nat
  | [] => 0
  | d :: r => uptoBulk d + uptoBulkAll r
def uptoBulkEntries {H : Type} : List (Lit × DataW H) → Nat
  | [] => 0
  | x :: r => uptoBulkEntry x + uptoBulkEntries r
def uptoBulkEntry {H : Type} : Lit × DataW H → Nat
  | (.string bytes, d) => bytes.length + uptoBulk d + 1
  | (_, d) => uptoBulk d + 1
 end
def uptoSmall : (H : Type) → List (DataW H) → Bool := fun _ ds => decide (uptoBulkAll ds ≤ 1048576)
def OpenSpec.upto (s : _root_.Go.ChangeSpec) : _root_.Go.OpenSpec := { _root_.Go.OpenSpec.ofChange s with cond := some uptoSmall }

/-- 'unicodetextlaw15.ImageSums', WHERE WHAT IT READS IS OF BULK AT MOST 1048576: true; the input reads as it did. -/
def imageSumsUptoRow : OpenClaim := { program := "ytkkjjhkhpibaiaa", sum := "c9d2bee4e97f65d880f6f78cb644e9ec0eb79874245f9c3b453b1eada3921030", func := "unicodetext/unicodetextlaw15.ImageSums", spec := "imageSums", unfollowed := true, recurses := true, apart := false, narrowed := true }
def ImageSumsUptoSaid : Prop := imageSumsUptoRow.holds Try.pinned (OpenSpec.upto imageSumsSpec)

/-- 'unicodetextlaw15.ImageInts', WHERE WHAT IT READS IS OF BULK AT MOST 1048576: true; the input reads as it did. -/
def imageIntsUptoRow : OpenClaim := { program := "ytkkjjhkhpibaiaa", sum := "c9d2bee4e97f65d880f6f78cb644e9ec0eb79874245f9c3b453b1eada3921030", func := "unicodetext/unicodetextlaw15.ImageInts", spec := "imageInts", unfollowed := true, recurses := true, apart := false, narrowed := true }
def ImageIntsUptoSaid : Prop := imageIntsUptoRow.holds Try.pinned (OpenSpec.upto imageIntsSpec)

/-- 'unicodetextlaw15.ImageRounds', WHERE WHAT IT READS IS OF BULK AT MOST 1048576: true; the input reads as it did. -/
def imageRoundsUptoRow : OpenClaim := { program := "ytkkjjhkhpibaiaa", sum := "c9d2bee4e97f65d880f6f78cb644e9ec0eb79874245f9c3b453b1eada3921030", func := "unicodetext/unicodetextlaw15.ImageRounds", spec := "imageRounds", unfollowed := true, recurses := true, apart := false, narrowed := true }
def ImageRoundsUptoSaid : Prop := imageRoundsUptoRow.holds Try.pinned (OpenSpec.upto imageRoundsSpec)

/-- 'unicodetextlaw15.ImageMinimal', WHERE WHAT IT READS IS OF BULK AT MOST 1048576: true; the input reads as it did. -/
def imageMinimalUptoRow : OpenClaim := { program := "ytkkjjhkhpibaiaa", sum := "c9d2bee4e97f65d880f6f78cb644e9ec0eb79874245f9c3b453b1eada3921030", func := "unicodetext/unicodetextlaw15.ImageMinimal", spec := "imageMinimal", unfollowed := true, recurses := true, apart := false, narrowed := true }
def ImageMinimalUptoSaid : Prop := imageMinimalUptoRow.holds Try.pinned (OpenSpec.upto imageMinimalSpec)

/-- 'unicodetextlaw15.ImageSeals', WHERE WHAT IT READS IS OF BULK AT MOST 1048576: true; the input reads as it did. -/
def imageSealsUptoRow : OpenClaim := { program := "ytkkjjhkhpibaiaa", sum := "c9d2bee4e97f65d880f6f78cb644e9ec0eb79874245f9c3b453b1eada3921030", func := "unicodetext/unicodetextlaw15.ImageSeals", spec := "imageSeals", unfollowed := true, recurses := true, apart := false, narrowed := true }
def ImageSealsUptoSaid : Prop := imageSealsUptoRow.holds Try.pinned (OpenSpec.upto imageSealsSpec)

/-- 'unicodetextlaw15.ImageChanges', WHERE WHAT IT READS IS OF BULK AT MOST 1048576: true; the input reads as it did. -/
def imageChangesUptoRow : OpenClaim := { program := "ytkkjjhkhpibaiaa", sum := "c9d2bee4e97f65d880f6f78cb644e9ec0eb79874245f9c3b453b1eada3921030", func := "unicodetext/unicodetextlaw15.ImageChanges", spec := "imageChanges", unfollowed := true, recurses := true, apart := false, narrowed := true }
def ImageChangesUptoSaid : Prop := imageChangesUptoRow.holds Try.pinned (OpenSpec.upto imageChangesSpec)

/-- 'unicodetextlaw15.ImageTables', WHERE WHAT IT READS IS OF BULK AT MOST 1048576: true; the input reads as it did. -/
def imageTablesUptoRow : OpenClaim := { program := "ytkkjjhkhpibaiaa", sum := "c9d2bee4e97f65d880f6f78cb644e9ec0eb79874245f9c3b453b1eada3921030", func := "unicodetext/unicodetextlaw15.ImageTables", spec := "imageTables", unfollowed := true, recurses := true, apart := false, narrowed := true }
def ImageTablesUptoSaid : Prop := imageTablesUptoRow.holds Try.pinned (OpenSpec.upto imageTablesSpec)

/-- 'unicodetextlaw15.ImageReadTables', WHERE WHAT IT READS IS OF BULK AT MOST 1048576: true; the input reads as it did. -/
def imageReadTablesUptoRow : OpenClaim := { program := "ytkkjjhkhpibaiaa", sum := "c9d2bee4e97f65d880f6f78cb644e9ec0eb79874245f9c3b453b1eada3921030", func := "unicodetext/unicodetextlaw15.ImageReadTables", spec := "imageReadTables", unfollowed := true, recurses := true, apart := false, narrowed := true }
def ImageReadTablesUptoSaid : Prop := imageReadTablesUptoRow.holds Try.pinned (OpenSpec.upto imageReadTablesSpec)

/-- 'unicodetextlaw15.ImagePools', WHERE WHAT IT READS IS OF BULK AT MOST 1048576: true; the input reads as it did. -/
def imagePoolsUptoRow : OpenClaim := { program := "ytkkjjhkhpibaiaa", sum := "c9d2bee4e97f65d880f6f78cb644e9ec0eb79874245f9c3b453b1eada3921030", func := "unicodetext/unicodetextlaw15.ImagePools", spec := "imagePools", unfollowed := true, recurses := true, apart := false, narrowed := true }
def ImagePoolsUptoSaid : Prop := imagePoolsUptoRow.holds Try.pinned (OpenSpec.upto imagePoolsSpec)

/-- 'unicodetextlaw15.ImageReadPools', WHERE WHAT IT READS IS OF BULK AT MOST 1048576: true; the input reads as it did. -/
def imageReadPoolsUptoRow : OpenClaim := { program := "ytkkjjhkhpibaiaa", sum := "c9d2bee4e97f65d880f6f78cb644e9ec0eb79874245f9c3b453b1eada3921030", func := "unicodetext/unicodetextlaw15.ImageReadPools", spec := "imageReadPools", unfollowed := true, recurses := true, apart := false, narrowed := true }
def ImageReadPoolsUptoSaid : Prop := imageReadPoolsUptoRow.holds Try.pinned (OpenSpec.upto imageReadPoolsSpec)

end Rows
end Go.Proofs.Ytkkjjhkhpibaiaa
