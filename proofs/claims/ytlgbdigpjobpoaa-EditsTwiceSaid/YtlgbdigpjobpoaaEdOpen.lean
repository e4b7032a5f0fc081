/-
  An argument of type api.Edit, opened.
-/
import Derived.Test.YtlgbdigpjobpoaaEdWalkD
import Derived.Lib.SmallJoins
namespace Go.Proofs.Ytlgbdigpjobpoaa.Ed
open Go.ChangeShapes Go.WideShapes Go.ChangeAt Go.RowKit
set_option linter.unusedVariables false

/-- A list that stands in a cell, opened. -/
theorem open_cell_list {H : Type} {enc : TypeId × Value → H} {W : World} {v : Value} {k : Nat} {y : DataW H × List MemPlace} (hf : DataW.trod enc Try.prog W 0 (fun _ => true) true k 22 [v] = some y) :
    ∃ A n c zs, v = .slice A n c ∧ Sl W A n c 1 (ints zs) := by
  have c1 : Try.prog.cellsOf 3 = 1 := by kernel_rfl
  rcases open_ints Try.underlying22 Try.underlying3 c1 hf with ⟨hcs, _⟩ | ⟨a, len, cap, zs, hcs, _, hl, hm, hz, _, hcell, _⟩
  · simp at hcs
    exact ⟨none, 0, 0, [], hcs, Sl.nil _ _⟩
  · simp at hcs
    simp only [if_true] at hz
    refine ⟨some a, len, cap, zs.take len, hcs, by rw [ints_length, List.length_take]; omega, hl, hm, (fun e => by cases e), fun j u hj => ?_⟩
    have hj2 : j < (zs.take len).length := by
      have := (List.getElem?_eq_some_iff.1 hj).1
      rwa [ints_length] at this
    rw [ints_at hj2, Option.some.injEq] at hj
    have hj3 : j < len := by simp at hj2; omega
    have hc := hcell j (by omega)
    obtain ⟨b, off, spot⟩ := a
    have hspot : spot = none := by simpa [Addr.add] using World.cell?_spot (hcell 0 (by omega))
    subst hspot
    rw [addr_add] at hc
    refine ⟨b, off, rfl, ?_, ?_⟩
    · rcases Nat.lt_or_ge b W.heap.size with hlt | hge
      · exact hlt
      · simp [World.cell?, Array.getElem?_eq_none hge] at hc
    · rw [hc, ← hj]
      simp [List.getD, hj3]

theorem open_edit {H : Type} {enc : TypeId × Value → H} {W : World} {r : Reach} {b0 : Nat} {v : Value} {d : DataW H} {p : List MemPlace} (hv : Value.okWide Try.prog W r b0 24 v) (h : DataW.Trod enc Try.prog W 0 (fun _ => true) true 24 v d p) :
    ∃ a e A n c zs, v = .agg #[.int .i64 a, .int .i64 e, .slice A n c] ∧ (Lit.int .i64 a).wf = true ∧ (Lit.int .i64 e).wf = true ∧ Sl W A n c 1 (ints zs) := by
  obtain ⟨v0, v1, v2, y0, y1, y2, k, rfl, _, _, h0, h1, h2⟩ := _root_.Go.Joins.open_agg3 Try.underlying24 (by kernel_rfl) (by kernel_rfl) hv h
  obtain ⟨a, ha, _, wa⟩ := DataW.trod_int Try.underlying3 h0
  obtain ⟨e, he, _, we⟩ := DataW.trod_int Try.underlying3 h1
  obtain ⟨A, n, c, zs, rfl, hz⟩ := open_cell_list h2
  simp at ha he
  subst ha he
  exact ⟨a, e, A, n, c, zs, rfl, wa, we, hz⟩
end Go.Proofs.Ytlgbdigpjobpoaa.Ed
