/-
  The two tables that a row lists, in the walks' word; a world for the witness.
-/
import Derived.Test.YtpckedihdmibmaaDoorCards
import Derived.Test.YtpckedihdmibmaaDoorTie
import Derived.Test.YtpckedihdmibmaaDoorU8Alive
import Derived.ProofKit
import Derived.OpenShut
import Derived.Deep.DeepHandedRow
import Derived.Lib.LaidTab
import Derived.Carry
namespace Go.Proofs.YtpckedihdmibmaaDoor.U8
open Go.ChangeShapes Go.WideShapes Go.ChangeAt Go.RowKit
set_option linter.unusedVariables false

theorem gTab : Tryd.prog.globalNamed "unicodetext/codepoint.hexDigits" = some 0 := by kernel_rfl
theorem gTabType : (Tryd.prog.globals[0]?).map (·.type) = some 56 := by kernel_rfl
theorem gTab2 : Tryd.prog.globalNamed "unicodetext/utf8text.hexDigits" = some 1 := by kernel_rfl
theorem gTabType2 : (Tryd.prog.globals[1]?).map (·.type) = some 56 := by kernel_rfl
theorem cellsTab : Tryd.prog.cellsOf 56 = 16 := by kernel_rfl
theorem cellsByte : Tryd.prog.cellsOf 5 = 1 := by kernel_rfl

def tabList : List Int := [48, 49, 50, 51, 52, 53, 54, 55, 56, 57, 65, 66, 67, 68, 69, 70]
/-- The first variable that is listed is a table; the others are listed behind it. -/
theorem vars_head {P : Program} {W : World} {name : String} {k : IntKind} {zs : List Int} {rest : List (String × DataW Unit)} {ps : List MemPlace} {g : Nat} {t e : TypeId} {n : Nat}
    (hg : P.globalNamed name = some g) (hty : (P.globals[g]?).map (·.type) = some t) (ht : P.underlying t = some (.array n e)) (he : P.underlying e = some (.int k)) (hce : P.cellsOf e = 1) (hct : P.cellsOf t = n)
    (h : DataW.LaidVars P W ((name, Lib.tabData k zs) :: rest) ps) : Lib.TabIs P W name k zs ∧ ∃ q, DataW.LaidVars P W rest q := by
  obtain ⟨g', t', cs, fuel, p, q, hg', ht', hvar, hd, hr, _⟩ := h
  obtain rfl := Option.some.inj (hg.symm.trans hg')
  obtain rfl := Option.some.inj (hty.symm.trans ht')
  refine ⟨?_, q, hr⟩
  unfold Lib.TabIs
  rw [hvar, ← Lib.cells_of_tab ht he hce hct hd]
theorem tab1 {W : World} (h : Lib.TabIs Tryd.prog W "unicodetext/codepoint.hexDigits" .u8 tabList) : Tab W := by
  unfold Lib.TabIs at h
  simp only [World.var?, gTab, Option.bind_some] at h
  split at h
  · rename_i cs t fr hg
    exact ⟨_, _, by rw [hg]; simp only [Option.some.injEq] at h; rw [h]; rfl⟩
  · cases h
theorem tab2 {W : World} (h : Lib.TabIs Tryd.prog W "unicodetext/utf8text.hexDigits" .u8 tabList) : Tab2 W := by
  unfold Lib.TabIs at h
  simp only [World.var?, gTab2, Option.bind_some] at h
  split at h
  · rename_i cs t fr hg
    exact ⟨_, _, by rw [hg]; simp only [Option.some.injEq] at h; rw [h]; rfl⟩
  · cases h
theorem tabs_of_laid {W : World} (h : laidMetH Tryd.prog [("unicodetext/codepoint.hexDigits", Rows.laid_unicodetext_codepoint_hexDigits), ("unicodetext/utf8text.hexDigits", Rows.laid_unicodetext_utf8text_hexDigits)] W) : Tabs W := by
  have h' : laidMet Tryd.prog [("unicodetext/codepoint.hexDigits", Lib.tabData .u8 tabList), ("unicodetext/utf8text.hexDigits", Lib.tabData .u8 tabList)] W := h
  obtain ⟨ps, hv, _⟩ := h'
  obtain ⟨h1, q, hv⟩ := vars_head gTab gTabType Tryd.underlying56 Tryd.underlying5 cellsByte cellsTab hv
  obtain ⟨h2, _, _⟩ := vars_head gTab2 gTabType2 Tryd.underlying56 Tryd.underlying5 cellsByte cellsTab hv
  exact ⟨tab1 h1, tab2 h2⟩

def layTab : Obj → Obj
  | .cells _ t frozen => .cells (tabList.map (Value.int .u8)).toArray t frozen
  | o => o
/-- A world for the witness: the settled one, the tables' blocks holding what their initialisers lay. -/
noncomputable def laidWorld (os : Os) : World :=
  { World.holding Tryd.prog os ⟨#[], #[], []⟩ with heap := ((World.holding Tryd.prog os ⟨#[], #[], []⟩).heap.modify 0 layTab).modify 1 layTab }
/-- A byte that came in. -/
theorem byte_wf {a : Int} (h : (Lit.int .u8 a).wf = true) : 0 ≤ a ∧ a ≤ 255 := by
  simpa [Lit.wf, IntKind.min, IntKind.max, IntKind.signed, IntKind.bits] using h
end Go.Proofs.YtpckedihdmibmaaDoor.U8
