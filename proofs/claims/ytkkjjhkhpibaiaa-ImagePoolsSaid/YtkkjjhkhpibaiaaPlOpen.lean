/-
  Arguments of type api.Pool, opened.
-/
import Derived.Test.YtkkjjhkhpibaiaaPlVal
import Derived.Lib.SmallJoins
import Derived.ChangeSlices
namespace Go.Proofs.Ytkkjjhkhpibaiaa.Sp
open Go.ChangeShapes Go.WideShapes Go.ChangeAt Go.RowKit
set_option linter.unusedVariables false

theorem cell_bound {W : World} {b k : Nat} {sp : Option Nat} {v : Value} (h : W.cell? ⟨b, k, none⟩ = some v) : b < W.heap.size := by
  rcases Nat.lt_or_ge b W.heap.size with hlt | hge
  · exact hlt
  · simp [World.cell?, Array.getElem?_eq_none hge] at h
/-- A list that stands in a cell, opened. -/
theorem open_cell_list {H : Type} {enc : TypeId × Value → H} {W : World} {v : Value} {k : Nat} {y : DataW H × List MemPlace} (hf : DataW.trod enc Try.prog W 0 (fun _ => true) true k 26 [v] = some y) :
    ∃ A n c zs, v = .slice A n c ∧ Sl W A n c 1 (ints zs) := by
  have c1 : Try.prog.cellsOf 3 = 1 := by kernel_rfl
  rcases open_ints Try.underlying26 Try.underlying3 c1 hf with ⟨hcs, _⟩ | ⟨a, len, cap, zs, hcs, _, hl, hm, hz, _, hcell, _⟩
  · simp at hcs
    exact ⟨none, 0, 0, [], hcs, Sl.nil _ _⟩
  · simp at hcs
    simp only [if_true] at hz
    refine ⟨some a, len, cap, zs.take len, hcs, by rw [ints_length, List.length_take]; omega, hl, hm, (fun e => by cases e), fun j u hj => ?_⟩
    have hj2 : j < (zs.take len).length := by
      have := (List.getElem?_eq_some_iff.1 hj).1
      rwa [ints_length] at this
    rw [ints_at hj2, Option.some.injEq] at hj
    have hj3 : j < len := by simp at hj2; omega
    have hc := hcell j (by omega)
    obtain ⟨b, off, spot⟩ := a
    have hspot : spot = none := by simpa [Addr.add] using World.cell?_spot (hcell 0 (by omega))
    subst hspot
    rw [addr_add] at hc
    refine ⟨b, off, rfl, cell_bound (sp := none) hc, ?_⟩
    rw [hc, ← hj]
    simp [List.getD, hj3]

theorem open_pool {H : Type} {enc : TypeId × Value → H} {W : World} {r : Reach} {b0 : Nat} {v : Value} {d : DataW H} {p : List MemPlace} (hv : Value.okWide Try.prog W r b0 51 v) (h : DataW.Trod enc Try.prog W 0 (fun _ => true) true 51 v d p) :
    ∃ A n ca B m cb C k cc xs ys zs, v = .agg #[.slice A n ca, .slice B m cb, .slice C k cc] ∧ Sl W A n ca 1 (ints xs) ∧ Sl W B m cb 1 (ints ys) ∧ Sl W C k cc 1 (ints zs) := by
  obtain ⟨v0, v1, v2, y0, y1, y2, k, rfl, _, _, h0, h1, h2⟩ := _root_.Go.Joins.open_agg3 Try.underlying51 (by kernel_rfl) (by kernel_rfl) hv h
  obtain ⟨A, n, ca, xs, rfl, hx⟩ := open_cell_list h0
  obtain ⟨B, m, cb, ys, rfl, hy⟩ := open_cell_list h1
  obtain ⟨C, k', cc, zs, rfl, hz⟩ := open_cell_list h2
  exact ⟨A, n, ca, B, m, cb, C, k', cc, xs, ys, zs, rfl, hx, hy, hz⟩

end Go.Proofs.Ytkkjjhkhpibaiaa.Sp
