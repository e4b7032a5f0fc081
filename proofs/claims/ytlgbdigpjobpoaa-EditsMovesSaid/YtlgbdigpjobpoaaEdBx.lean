/-
  An argument's box: all old memory as it was, and the box holds its cells.
-/
import Derived.Test.YtlgbdigpjobpoaaMem
namespace Go.Proofs.Ytlgbdigpjobpoaa.Ed
open Go.RowKit
set_option linter.unusedVariables false

/-- All old memory is as it was, and the box of an argument holds these three cells. -/
structure Bx (w W : World) (g : Nat) (x y z : Value) : Prop where
  below : Below w.heap.size w W
  size : g < W.heap.size
  cells : W.cell? ⟨g, 0, none⟩ = some x ∧ W.cell? ⟨g, 1, none⟩ = some y ∧ W.cell? ⟨g, 2, none⟩ = some z
theorem Bx.new (w : World) (x y z : Value) (t : TypeId) : Bx w (w.alloc (.cells #[x, y, z] t)) w.heap.size x y z :=
  ⟨(Below.refl _ _).alloc (Nat.le_refl _) _, by simp, (box3 (heap_alloc_new w _)).1⟩
theorem Bx.step {w W W' w1 : World} {g : Nat} {x y z : Value} (h : Bx w W g x y z) (hb : Below W'.heap.size W' w1) (hs : W' = W ∨ W' = W.drew) : Bx w w1 g x y z := by
  have hb' : Below W.heap.size W w1 := by
    rcases hs with rfl | rfl
    · exact hb
    · exact undrew hb
  exact ⟨h.below.trans (hb'.mono h.below.size), Nat.lt_of_lt_of_le h.size hb'.size, (hb'.cell (p := ⟨g, 0, none⟩) h.size).trans h.cells.1, (hb'.cell (p := ⟨g, 1, none⟩) h.size).trans h.cells.2.1, (hb'.cell (p := ⟨g, 2, none⟩) h.size).trans h.cells.2.2⟩

end Go.Proofs.Ytlgbdigpjobpoaa.Ed
