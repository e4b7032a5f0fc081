/-
  The table of package codepoint in its block.
-/
import Derived.Test.YtkfchcmbpgcncaaDoorMem
import Derived.Test.YtkfchcmbpgcncaaDoorCpHex
import Derived.WalkLawsBesides
import Derived.Laws.Rows
import Derived.Lib.LaidTab
namespace Go.Proofs.YtkfchcmbpgcncaaDoor
open Go.RowKit
set_option linter.unusedVariables false

/-- The table's cells. -/
def tabCells : Array Value := ((List.range 16).map fun j => Value.int .u8 (tabN j)).toArray
theorem tabCells_size : tabCells.size = 16 := by simp [tabCells]
theorem tabCells_at {j : Nat} (h : j < 16) : tabCells[j]? = some (.int .u8 (tabN j)) := by simp [tabCells, h]
/-- The table lies in its block. -/
def Tab (w : World) : Prop := ∃ t fr, w.heap[0]? = some (.cells tabCells t fr)
theorem Tab.lt {w : World} (h : Tab w) : 0 < w.heap.size := by
  obtain ⟨t, fr, h⟩ := h
  rcases Nat.lt_or_ge 0 w.heap.size with hlt | hge
  · exact hlt
  · rw [Array.getElem?_eq_none hge] at h; cases h
theorem Tab.below {w w' : World} (h : Tab w) {B : Nat} (hB : 0 < B) (hb : Below B w w') : Tab w' := by
  obtain ⟨t, fr, h⟩ := h
  exact ⟨t, fr, (hb.block _ hB).trans h⟩
theorem Tab.drewN {w : World} (h : Tab w) (n : Nat) : Tab (w.drewN n) := h

theorem idx_tab (k : Nat) (hk : k < 16) (w : World) : (Instr.index 64 (.agg tabCells) (.int .i64 (k : Int))).run Tryd.prog w = .ok (.int .u8 (tabN k)) w := by
  have hs : (sizeOf 5).run Tryd.prog w = .ok 1 w := by kernel_rfl
  have h1 := tabCells_at hk
  simp [Instr.index, asIntOf, run_underlying Tryd.underlying64, hs, part, h1, hk]

end Go.Proofs.YtkfchcmbpgcncaaDoor
