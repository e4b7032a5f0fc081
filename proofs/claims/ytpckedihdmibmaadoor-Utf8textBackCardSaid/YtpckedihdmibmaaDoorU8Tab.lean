/-
  The table of package utf8text in its block.
-/
import Derived.Test.YtpckedihdmibmaaDoorCpTab
import Derived.Test.YtpckedihdmibmaaDoorU8Math
namespace Go.Proofs.YtpckedihdmibmaaDoor.U8
open Go.RowKit
set_option linter.unusedVariables false

/-- The table lies in its block. -/
def Tab2 (w : World) : Prop := ∃ t fr, w.heap[1]? = some (.cells tabCells t fr)
theorem Tab2.lt {w : World} (h : Tab2 w) : 1 < w.heap.size := by
  obtain ⟨t, fr, h⟩ := h
  rcases Nat.lt_or_ge 1 w.heap.size with hlt | hge
  · exact hlt
  · rw [Array.getElem?_eq_none hge] at h; cases h
theorem Tab2.next {w w' : World} (h : Tab2 w) (hb : Below w.heap.size w w') : Tab2 w' := by
  have hl := h.lt
  obtain ⟨t, fr, h⟩ := h
  exact ⟨t, fr, (hb.block _ hl).trans h⟩
theorem Tab2.alloc {w : World} (h : Tab2 w) (o : Obj) : Tab2 (w.alloc o) := h.next ((Below.refl _ w).alloc (Nat.le_refl _) o)
theorem tabN_hexd {x : Int} (h0 : 0 ≤ x) (h1 : x < 16) : tabN x.toNat = hexd x := by
  unfold tabN hexd
  have : ((x.toNat : Nat) : Int) = x := by omega
  rw [this]
  by_cases h : x < 10
  · rw [if_pos h, if_pos (by omega)]
  · rw [if_neg h, if_neg (by omega)]
theorem Tab2.cell {w : World} (h : Tab2 w) {x : Int} (h0 : 0 ≤ x) (h1 : x < 16) : w.cell? ⟨1, x.toNat, none⟩ = some (.int .u8 (hexd x)) := by
  obtain ⟨t, fr, h⟩ := h
  rw [cell_of_row w _ _ _ t _ h, tabCells_at (by omega), tabN_hexd h0 h1]
theorem hexd_range {x : Int} (h0 : 0 ≤ x) (h1 : x < 16) : 48 ≤ hexd x ∧ hexd x ≤ 70 := by
  unfold hexd
  split <;> omega
end Go.Proofs.YtpckedihdmibmaaDoor.U8
