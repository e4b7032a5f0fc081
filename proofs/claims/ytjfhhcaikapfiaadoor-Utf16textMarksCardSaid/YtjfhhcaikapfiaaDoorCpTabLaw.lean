/-
  The table that a row lists, in the walks' word; a world for the witness.
-/
import Derived.Test.YtjfhhcaikapfiaaDoorCards
import Derived.Test.YtjfhhcaikapfiaaDoorTie
import Derived.Test.YtjfhhcaikapfiaaDoorCpTab
import Derived.ProofKit
import Derived.OpenShut
import Derived.Deep.DeepHandedRow
import Derived.Lib.LaidTab
import Derived.Carry
namespace Go.Proofs.YtjfhhcaikapfiaaDoor
open Go.ChangeShapes Go.WideShapes Go.ChangeAt Go.RowKit
set_option linter.unusedVariables false

theorem gTab : Tryd.prog.globalNamed "unicodetext/codepoint.hexDigits" = some 0 := by kernel_rfl
theorem gTabType : (Tryd.prog.globals[0]?).map (·.type) = some 60 := by kernel_rfl
theorem cellsTab : Tryd.prog.cellsOf 60 = 16 := by kernel_rfl
theorem cellsByte : Tryd.prog.cellsOf 5 = 1 := by kernel_rfl

def tabList : List Int := [48, 49, 50, 51, 52, 53, 54, 55, 56, 57, 65, 66, 67, 68, 69, 70]
theorem tab_of_is {W : World} (h : Lib.TabIs Tryd.prog W "unicodetext/codepoint.hexDigits" .u8 tabList) : Tab W := by
  unfold Lib.TabIs at h
  simp only [World.var?, gTab, Option.bind_some] at h
  split at h
  · rename_i cs t fr hg
    exact ⟨_, _, by rw [hg]; simp only [Option.some.injEq] at h; rw [h]; rfl⟩
  · cases h
theorem tab_of_laid {W : World} (h : laidMetH Tryd.prog [("unicodetext/codepoint.hexDigits", Rows.laid_unicodetext_codepoint_hexDigits)] W) : Tab W :=
  tab_of_is (Lib.tabIs_of_head (rest := []) (zs := tabList) gTab gTabType Tryd.underlying60 Tryd.underlying5 cellsByte cellsTab h)

/-- A world for the witness: the settled one, the table's block holding what its initialiser lays. -/
noncomputable def laidWorld (os : Os) : World :=
  { World.holding Tryd.prog os ⟨#[], #[], []⟩ with heap := (World.holding Tryd.prog os ⟨#[], #[], []⟩).heap.modify 0 fun
      | .cells _ t frozen => .cells (tabList.map (Value.int .u8)).toArray t frozen
      | o => o }
end Go.Proofs.YtjfhhcaikapfiaaDoor
