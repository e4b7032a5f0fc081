/-
  An argument of type [2]bool, opened.
-/
import Derived.Test.YtjfhhcaikapfiaaDoorUxWalkC
import Derived.Lib.SmallJoins
namespace Go.Proofs.YtjfhhcaikapfiaaDoor.Ux
open Go.ChangeShapes Go.WideShapes Go.ChangeAt Go.RowKit
set_option linter.unusedVariables false

theorem open_flags {H : Type} {enc : TypeId × Value → H} {W : World} {r : Reach} {b0 : Nat} {v : Value} {d : DataW H} {p : List MemPlace} (hv : Value.okWide Tryd.prog W r b0 31 v) (h : DataW.Trod enc Tryd.prog W 0 (fun _ => true) true 31 v d p) :
    ∃ a b, v = .agg #[.bool a, .bool b] := by
  have c1 : Tryd.prog.cellsOf 4 = 1 := by kernel_rfl
  have c2 : Tryd.prog.cellsOf 31 = 2 := by kernel_rfl
  simp only [Value.okWide, Tryd.underlying31] at hv
  obtain ⟨cs, rfl, h2, _⟩ := hv
  rw [c2] at h2
  obtain ⟨x, y, rfl⟩ := Go.Joins.array2 h2
  obtain ⟨fuel, hf⟩ := h
  cases fuel with
  | zero => simp [DataW.trod] at hf
  | succ n =>
    unfold DataW.trod at hf
    rw [Tryd.underlying31] at hf
    have r2 : List.range 2 = [0, 1] := rfl
    simp [Value.cells, r2, c1] at hf
    obtain ⟨_, hf⟩ := hf
    cases h0 : DataW.trod enc Tryd.prog W 0 (fun _ => true) true n 4 [x] with
    | none => simp [h0] at hf
    | some y0 =>
      cases h1 : DataW.trod enc Tryd.prog W 0 (fun _ => true) true n 4 [y] with
      | none => simp [h0, h1] at hf
      | some y1 =>
        obtain ⟨a, ha, _⟩ := DataW.trod_bool Tryd.underlying4 h0
        obtain ⟨b, hb, _⟩ := DataW.trod_bool Tryd.underlying4 h1
        simp at ha hb
        exact ⟨a, b, by rw [ha, hb]⟩
end Go.Proofs.YtjfhhcaikapfiaaDoor.Ux
