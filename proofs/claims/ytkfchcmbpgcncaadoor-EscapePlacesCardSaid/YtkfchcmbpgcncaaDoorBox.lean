/-
  Blocks that a call makes for its own variables: what they hold behind further calls.
-/
import Derived.Test.YtkfchcmbpgcncaaDoorMem
namespace Go.Proofs.YtkfchcmbpgcncaaDoor
open Go.RowKit
set_option linter.unusedVariables false

/-- All old memory is as it was, and the block g, made since, holds these cells. -/
structure Bk (w W : World) (g : Nat) (cs : Array Value) : Prop where
  below : Below w.heap.size w W
  ge : w.heap.size ≤ g
  row : ∃ t, W.heap[g]? = some (.cells cs t (0, 0))
theorem Bk.lt {w W : World} {g : Nat} {cs : Array Value} (h : Bk w W g cs) : g < W.heap.size := by
  obtain ⟨t, h⟩ := h.row
  rcases Nat.lt_or_ge g W.heap.size with hlt | hge
  · exact hlt
  · rw [Array.getElem?_eq_none hge] at h; cases h
theorem Bk.fresh {w W : World} (h : Below w.heap.size w W) (cs : Array Value) (t : TypeId) : Bk w (W.alloc (.cells cs t)) W.heap.size cs :=
  ⟨h.alloc h.size _, h.size, t, heap_alloc_new W _⟩
theorem Bk.fresh_at {w W : World} (h : Below w.heap.size w W) (cs : Array Value) (t : TypeId) {g : Nat} (hg : g = W.heap.size) : Bk w (W.alloc (.cells cs t)) g cs := by
  rw [hg]
  exact Bk.fresh h cs t
theorem Bk.alloc {w W : World} {g : Nat} {cs : Array Value} (h : Bk w W g cs) (o : Obj) : Bk w (W.alloc o) g cs := by
  obtain ⟨t, hr⟩ := h.row
  exact ⟨h.below.alloc h.below.size _, h.ge, t, by rw [heap_alloc_old _ _ h.lt]; exact hr⟩
theorem Bk.step {w W w1 : World} {g : Nat} {cs : Array Value} (h : Bk w W g cs) (hb : Below W.heap.size W w1) : Bk w w1 g cs := by
  obtain ⟨t, hr⟩ := h.row
  exact ⟨h.below.trans (hb.mono h.below.size), h.ge, t, (hb.block g h.lt).trans hr⟩
theorem Bk.drawn {w W w1 : World} {g : Nat} {cs : Array Value} (h : Bk w W g cs) (hb : Drawn W w1) : Bk w w1 g cs := h.step (hb.below _)
theorem Bk.cell {w W : World} {g : Nat} {cs : Array Value} (h : Bk w W g cs) (i : Nat) : W.cell? ⟨g, i, none⟩ = cs[i]? := by
  obtain ⟨t, hr⟩ := h.row
  exact cell_of_row W g i cs t _ hr
theorem Bk.two {w W : World} {g : Nat} {x y : Value} (h : Bk w W g #[x, y]) : W.cell? ⟨g, 0, none⟩ = some x ∧ W.cell? ⟨g, 1, none⟩ = some y := ⟨h.cell 0, h.cell 1⟩
theorem Bk.three {w W : World} {g : Nat} {x y z : Value} (h : Bk w W g #[x, y, z]) : W.cell? ⟨g, 0, none⟩ = some x ∧ W.cell? ⟨g, 1, none⟩ = some y ∧ W.cell? ⟨g, 2, none⟩ = some z := ⟨h.cell 0, h.cell 1, h.cell 2⟩
theorem Bk.free {w W : World} {g : Nat} {cs : Array Value} (h : Bk w W g cs) (i : Nat) : W.frozen? ⟨g, i, none⟩ = false := by
  obtain ⟨t, hr⟩ := h.row
  simp [World.frozen?, hr]
end Go.Proofs.YtkfchcmbpgcncaaDoor
